/-
  Texts that belong together, joined: CxM6, CxM7, CrJ, CrF, Copy, CqL, CqR, CwA, CwB, CqQ, HuLn, NoJn, NoTx, NoRf, NoCg, NoPr, CxLen, CxR, CxP, CwC.
-/
import Derived.Test.YtgiojkhmkeocfaaGreatDoorCtParA4
import Derived.Shelf.Strings.Builder1
import Derived.Test.YtgiojkhmkeocfaaGreatDoorProg
import Derived.Test.YtgiojkhmkeocfaaGreatDoorCtParA1
import Derived.WalkKit
import Derived.WalkSpells
import Derived.WalkLawsBesides
import Derived.BigQuiet
import Derived.Lib.FrozenHead2
import Derived.Test.YtgiojkhmkeocfaaGreatDoorCtParA3
import Derived.Test.YtgiojkhmkeocfaaGreatDoorCtParA2
import Derived.Lib.ItoaNum
import Derived.Laws.IdiomStrings
import Derived.Deep.RegionHeld3
import Derived.Deep.CutBlock
import Derived.Deep.DeepCutAuto

/- The context form: what is read are right patches, and they are read again from their texts; plain mathematics. -/
set_option maxRecDepth 20000
namespace Go.Proofs.YtgiojkhmkeocfaaGreatDoor
open Ln

/-- the lines that were taken -/
theorem lns_far {s : List UInt8} {q n : Int} (h : lnsP s = some (q, n)) : q + n - 1 ≤ 2147483647 := by
  unfold lnsP at h
  split at h
  · rename_i x c y _
    split at h
    · cases h
      have := (prs_num (s := y)).2
      omega
    · cases h
  · split at h
    · cases h
      have := (prs_num (s := s)).2
      omega
    · cases h
theorem rng_ok {e : UInt8} {p : Nat} {ls r : List (List UInt8)} {q n : Int} (hP : Plain ls) (h : rngP e p ls = .ok ((q, n), r)) : ls.length = r.length + 1 ∧ Plain r ∧ 0 ≤ q ∧ q ≤ 2147483647 ∧ (n = -1 ∨ 1 ≤ n ∧ n ≤ 2147483647 ∧ q + n - 1 ≤ 2147483647) := by
  unfold rngP at h
  split at h
  · cases h
  · rename_i s r0 hn
    obtain ⟨a1, a2⟩ := nxt_len hP hn
    split at h
    · cases h
    · rename_i t _
      split at h
      · cases h
      · rename_i v hv
        cases h
        unfold rngI at hv
        split at hv
        · cases hv
          have := prs_num (s := t)
          exact ⟨a1, a2, this.1, this.2, .inl rfl⟩
        · have b1 := lns_right hv
          have b2 := lns_far hv
          exact ⟨a1, a2, by omega, by omega, .inr ⟨by omega, by omega, b2⟩⟩
theorem isSd_form {sg : UInt8} {s : List UInt8} (h : isSd sg s = true) (hf : fdB s = true) (hp : ∀ c ∈ s.dropLast, c ≠ 10) : ∃ a v, s = a :: 32 :: (v ++ [10]) ∧ (∀ c ∈ v, c ≠ 10) ∧ (a = 32 ∨ a = sg ∨ a = 33) := by
  cases s with
  | nil => cases h
  | cons a s =>
    cases s with
    | nil => cases h
    | cons b u =>
      simp only [isSd, Bool.and_eq_true, Bool.or_eq_true, beq_iff_eq] at h
      obtain ⟨ha, rfl⟩ := h
      rcases List.eq_nil_or_concat u with rfl | ⟨v, d, rfl⟩
      · exact absurd hf (by simp [fdB])
      · rw [List.concat_eq_append] at hf hp ⊢
        have e : a :: 32 :: (v ++ [d]) = (a :: 32 :: v) ++ [d] := by simp
        rw [e] at hf hp
        have hd : d = 10 := by
          unfold fdB at hf
          rw [List.getLast?_concat] at hf
          simpa using hf
        subst hd
        rw [List.dropLast_concat] at hp
        exact ⟨a, v, rfl, fun c hc => hp c (by simp [hc]), by rcases ha with (h | h) | h <;> simp [h]⟩
theorem lin_feed {v : List UInt8} (h : ∀ c ∈ v, c ≠ 10) : linB (v ++ [10]) = true := by
  unfold linB
  rw [List.dropLast_concat]
  have e1 : (v ++ [10]).isEmpty = false := by cases v <;> rfl
  rw [e1]
  simp only [Bool.not_false, Bool.true_and, List.all_eq_true]
  intro c hc
  simpa using h c hc
theorem lin_bare {v : List UInt8} (h : ∀ c ∈ v, c ≠ 10) (hn : v ≠ []) : linB v = true := by
  unfold linB
  have e1 : v.isEmpty = false := by
    cases v with
    | nil => exact absurd rfl hn
    | cons => rfl
  rw [e1]
  simp only [Bool.not_false, Bool.true_and, List.all_eq_true]
  intro c hc
  simpa using h c ((List.dropLast_sublist _).subset hc)
theorem rd_ok {sg : UInt8} (ls : List (List UInt8)) : ∀ {p p1 : Nat} {r : List (List UInt8)} {x : Sde}, Plain ls → rdS sg p ls = .ok (x, p1, r) → Plain r ∧ (∀ y ∈ x, linB y.2 = true ∧ (y.1 = 32 ∨ y.1 = sg ∨ y.1 = 33)) ∧ abl (x.map (·.2)) = true ∧ ls.length + p = r.length + p1 ∧ x.length ≤ ls.length := by
  induction ls with
  | nil =>
    intro p p1 r x hP h
    simp only [rdS] at h
    cases h
    exact ⟨hP, fun y hy => (by cases hy), rfl, rfl, Nat.le_refl _⟩
  | cons s ls ih =>
    intro p p1 r x hP h
    have hPr : Plain ls := fun y hy => hP y (by simp [hy])
    simp only [rdS] at h
    split at h
    · rename_i hsd
      split at h
      · rename_i hf
        obtain ⟨a, v, rfl, hv, ha⟩ := isSd_form hsd hf (hP s (by simp))
        have e1 : (a :: 32 :: (v ++ [10])).headD 0 = a := rfl
        have e2 : (a :: 32 :: (v ++ [10])).drop 2 = v ++ [10] := rfl
        rw [e1, e2] at h
        split at h
        · rename_i hm
          rw [List.dropLast_concat] at h
          cases h
          have hvn : v ≠ [] := by
            intro e
            subst e
            exact absurd hm.2 (by simp)
          have hlen : ls.tail.length + 1 = ls.length := by
            cases ls with
            | nil => exact absurd hm.1 (by decide)
            | cons => simp
          refine ⟨fun y hy => hPr y (List.mem_of_mem_tail hy), ?_, rfl, by simp only [List.length_cons]; omega, by simp⟩
          intro y hy
          rw [List.mem_singleton.1 hy]
          exact ⟨lin_bare hv hvn, ha⟩
        · split at h
          · cases h
          · rename_i l p2 r2 hr
            obtain ⟨b1, b2, b3, b4, b5⟩ := ih hPr hr
            cases h
            refine ⟨b1, ?_, ?_, by simp only [List.length_cons]; omega, by simp only [List.length_cons]; omega⟩
            · intro y hy
              rcases List.mem_cons.1 hy with rfl | hy
              · exact ⟨lin_feed hv, ha⟩
              · exact b2 y hy
            · simp only [List.map_cons, abl, fd_snoc, Bool.or_true, Bool.true_and]
              exact b3
      · cases h
    · cases h
      exact ⟨hP, fun y hy => (by cases hy), rfl, rfl, by simp⟩
theorem mkS_mks (s : Int) (x : Sde) : mkS s x = mks s (x.map (·.2)) := by simp [mkS, mks]
theorem mkS_all (s : Int) (x : Sde) : AllS s (mkS s x) := by
  intro m hm
  obtain ⟨y, _, rfl⟩ := List.mem_map.1 hm
  rfl
theorem nf_rem {R : List Mk} (hR : AllS 45 R) {t : List Mk} (ht : Nf false t) : Nf false (R ++ t) := by
  induction R with
  | nil => exact ht
  | cons m R ih =>
    have hm := hR m (by simp)
    simp only [List.cons_append, Nf]
    rw [if_pos hm]
    exact ⟨trivial, ih fun x hx => hR x (by simp [hx])⟩
theorem rst_head {x z : Sde} {y : UInt8 × List UInt8} (h : rstS x = y :: z) : y.1 = 32 := by
  induction x with
  | nil => cases h
  | cons a x ih =>
    simp only [rstS, List.dropWhile_cons] at h
    split at h
    · exact ih h
    · rename_i hq
      cases h
      simpa using hq
theorem chg_rst (x : Sde) : chgS x ++ rstS x = x := List.takeWhile_append_dropWhile
/-- what both sides make -/
theorem jn_ok (f : Nat) : ∀ {o w : Sde} {l : List Mk}, jnS f o w = some l → Nf false l ∧ (∀ m ∈ l, okS m.sg = true) ∧ pkL 43 l = o.map (·.2) ∧ pkL 45 l = w.map (·.2) ∧ ((l.all fun m => decide (m.sg = 32)) = true → sameS o = true ∧ sameS w = true) := by
  induction f with
  | zero => intro o w l h; cases h
  | succ f ih =>
    intro o w l h
    have eo := chg_rst o
    have ew := chg_rst w
    have ok45 : ∀ m ∈ mkS 45 (chgS o), okS m.sg = true := fun m hm => by rw [mkS_all 45 _ m hm]; rfl
    have ok43 : ∀ m ∈ mkS 43 (chgS w), okS m.sg = true := fun m hm => by rw [mkS_all 43 _ m hm]; rfl
    have p1 : pkL 43 (mkS 45 (chgS o)) = (chgS o).map (·.2) := by rw [mkS_mks]; exact pick_mks_in 43 45 (by decide) rfl _
    have p2 : pkL 45 (mkS 45 (chgS o)) = [] := by rw [mkS_mks]; exact pick_mks_out 45 _
    have p3 : pkL 43 (mkS 43 (chgS w)) = [] := by rw [mkS_mks]; exact pick_mks_out 43 _
    have p4 : pkL 45 (mkS 43 (chgS w)) = (chgS w).map (·.2) := by rw [mkS_mks]; exact pick_mks_in 45 43 (by decide) rfl _
    have hall : ∀ (s : Int) (x : Sde), s ≠ 32 → ((mkS s x).all fun m => decide (m.sg = 32)) = true → x = [] := by
      intro s x hs hx
      cases x with
      | nil => rfl
      | cons y x =>
        simp [mkS, hs] at hx
    rw [jnS] at h
    split at h
    · split at h
      · rename_i h1 h2
        cases h
        rw [h1, List.append_nil] at eo
        rw [h2, List.append_nil] at ew
        refine ⟨nf_rem (mkS_all _ _) ?_, ?_, ?_, ?_, ?_⟩
        · have := nf_added (mkS_all 43 (chgS w)) [] (fun s => by simp [Nf]) false
          rw [List.append_nil] at this
          exact this
        · intro m hm
          rcases List.mem_append.1 hm with hm | hm
          · exact ok45 m hm
          · exact ok43 m hm
        · rw [pkL_append, p1, p3, List.append_nil, eo]
        · rw [pkL_append, p2, p4, List.nil_append, ew]
        · intro ha
          rw [List.all_append, Bool.and_eq_true] at ha
          have z1 := hall 45 _ (by decide) ha.1
          have z2 := hall 43 _ (by decide) ha.2
          rw [z1] at eo
          rw [z2] at ew
          rw [← eo, ← ew]
          exact ⟨rfl, rfl⟩
      · rename_i k1 s o2 k2 t w2 h1 h2
        have hk1 := rst_head h1
        have hk2 := rst_head h2
        rw [h1] at eo
        rw [h2] at ew
        split at h
        · rename_i hst
          split at h
          · cases h
          · rename_i l2 hj
            obtain ⟨i1, i2, i3, i4, i5⟩ := ih hj
            cases h
            refine ⟨nf_rem (mkS_all _ _) (nf_added (mkS_all _ _) _ (fun b => by simp only [Nf]; exact i1) false), ?_, ?_, ?_, ?_⟩
            · intro m hm
              rcases List.mem_append.1 hm with hm | hm
              · exact ok45 m hm
              · rcases List.mem_append.1 hm with hm | hm
                · exact ok43 m hm
                · rcases List.mem_cons.1 hm with rfl | hm
                  · rfl
                  · exact i2 m hm
            · have e3 := congrArg (List.map (·.2)) eo
              rw [List.map_append] at e3
              rw [pkL_append, pkL_append, p1, p3, List.nil_append, ← e3]
              congr 1
              simp only [pkL, List.map_cons]
              rw [if_pos (by decide), i3]
            · have e3 := congrArg (List.map (·.2)) ew
              rw [List.map_append] at e3
              rw [pkL_append, pkL_append, p2, p4, List.nil_append, ← e3]
              congr 1
              simp only [pkL, List.map_cons]
              rw [if_pos (by decide), i4, hst]
            · intro ha
              rw [List.all_append, List.all_append, List.all_cons, Bool.and_eq_true, Bool.and_eq_true, Bool.and_eq_true] at ha
              have z1 := hall 45 _ (by decide) ha.1
              have z2 := hall 43 _ (by decide) ha.2.1
              obtain ⟨j1, j2⟩ := i5 ha.2.2.2
              rw [z1] at eo
              rw [z2] at ew
              rw [← eo, ← ew]
              simp only at hk1 hk2
              simp only [sameS, List.nil_append, List.all_cons, Bool.and_eq_true] at j1 j2 ⊢
              exact ⟨⟨by rw [hk1]; rfl, j1⟩, ⟨by rw [hk2]; rfl, j2⟩⟩
        · cases h
      · cases h
    · cases h
theorem abl_kept {x : Sde} (h : abl (x.map (·.2)) = true) : abl ((keptS x).map (·.2)) = true := by
  induction x with
  | nil => rfl
  | cons y x ih =>
    simp only [List.map_cons, abl, Bool.and_eq_true, Bool.or_eq_true] at h
    have hi := ih h.2
    simp only [keptS, List.filter_cons] at hi ⊢
    split
    · simp only [List.map_cons, abl, Bool.and_eq_true, Bool.or_eq_true]
      refine ⟨?_, hi⟩
      rcases h.1 with h1 | h1
      · have : x = [] := by simpa using h1
        subst this
        exact .inl rfl
      · exact .inr h1
    · exact hi
theorem pk_has {no : Int} {l : List Mk} {m : Mk} (hn : m.sg ≠ no) (ho : okS m.sg = true) (h : m ∈ l) : m.tx ∈ pkL no l := by
  induction l with
  | nil => cases h
  | cons x l ih =>
    simp only [pkL]
    rcases List.mem_cons.1 h with rfl | h
    · rw [if_pos ⟨hn, ho⟩]
      simp
    · split
      · exact List.mem_cons_of_mem _ (ih h)
      · exact ih h
theorem fin_ok {a0 a1 a2 : Nat} {po no pw nw : Int} {o w : Sde} {h : Hk} (ho : (∀ y ∈ o, linB y.2 = true) ∧ abl (o.map (·.2)) = true) (hw : (∀ y ∈ w, linB y.2 = true) ∧ abl (w.map (·.2)) = true) (ro : 0 ≤ po ∧ po ≤ 2147483647 ∧ (no = -1 ∨ 1 ≤ no ∧ no ≤ 2147483647 ∧ po + no - 1 ≤ 2147483647)) (rw' : 0 ≤ pw ∧ pw ≤ 2147483647 ∧ (nw = -1 ∨ 1 ≤ nw ∧ nw ≤ 2147483647 ∧ pw + nw - 1 ≤ 2147483647)) (hf : finH a0 a1 a2 po no pw nw o w = .ok h) : Gh h := by
  unfold finH at hf
  split at hf
  · cases hf
  · rename_i c0
    split at hf
    · cases hf
    · rename_i c1
      split at hf
      · cases hf
      · rename_i c2
        split at hf
        · cases hf
        · rename_i c3
          split at hf
          · cases hf
          · rename_i c4
            split at hf
            · cases hf
            · rename_i l hj
              cases hf
              obtain ⟨i1, i2, i3, i4, i5⟩ := jn_ok _ hj
              have lo : (∀ y ∈ oldF o w, linB y.2 = true) ∧ abl ((oldF o w).map (·.2)) = true := by
                unfold oldF
                split
                · exact ⟨fun y hy => hw.1 y (List.mem_filter.1 hy).1, abl_kept hw.2⟩
                · exact ho
              have lw : (∀ y ∈ newF o w, linB y.2 = true) ∧ abl ((newF o w).map (·.2)) = true := by
                unfold newF
                split
                · exact ⟨fun y hy => ho.1 y (List.mem_filter.1 hy).1, abl_kept ho.2⟩
                · exact hw
              have n1 : ¬ (no < 0 ∧ 1 < (oldF o w).length ∨ 0 ≤ no ∧ no ≠ (oldF o w).length) := by
                intro q
                exact c1 (decide_eq_true q)
              have n2 : ¬ (nw < 0 ∧ 1 < (newF o w).length ∨ 0 ≤ nw ∧ nw ≠ (newF o w).length) := by
                intro q
                exact c2 (decide_eq_true q)
              have z1 : po = 0 → (oldF o w).length = 0 := by
                intro q
                cases hq : oldF o w with
                | nil => rfl
                | cons y x => exact absurd ⟨q, by rw [hq]; simp⟩ c3
              have z2 : pw = 0 → (newF o w).length = 0 := by
                intro q
                cases hq : newF o w with
                | nil => rfl
                | cons y x => exact absurd ⟨q, by rw [hq]; simp⟩ c4
              have hlin : ∀ m ∈ l, linB m.tx = true := by
                intro m hm
                have hok := i2 m hm
                have hc : m.sg = 32 ∨ m.sg = 45 ∨ m.sg = 43 := by simp [okS] at hok; omega
                by_cases h43 : m.sg = 43
                · have : m.tx ∈ pkL 45 l := pk_has (by omega) hok hm
                  rw [i4] at this
                  obtain ⟨y, hy, e⟩ := List.mem_map.1 this
                  rw [← e]
                  exact lw.1 y hy
                · have : m.tx ∈ pkL 43 l := pk_has h43 hok hm
                  rw [i3] at this
                  obtain ⟨y, hy, e⟩ := List.mem_map.1 this
                  rw [← e]
                  exact lo.1 y hy
              have hfld : fldB l = true := (fld_iff l).2 ⟨fun m hm => ⟨hlin m hm, i2 m hm⟩, by rw [i3]; exact lo.2, by rw [i4]; exact lw.2⟩
              have hrng : rngB ⟨po, (oldF o w).length, pw, (newF o w).length, l⟩ = true := by
                simp only [rngB, nat31, Bool.and_eq_true, Bool.not_eq_true', Bool.and_eq_false_iff, decide_eq_true_eq, decide_eq_false_iff_not]
                omega
              have hall : (l.all fun m => decide (m.sg = 32)) = false := by
                cases hq : l.all fun m => decide (m.sg = 32) with
                | false => rfl
                | true =>
                  exfalso
                  obtain ⟨j1, j2⟩ := i5 hq
                  unfold oldF at j1
                  unfold newF at j2
                  by_cases e1 : o = []
                  · rw [if_neg (fun q => q.1 e1)] at j2
                    exact c0 ⟨by rw [e1]; rfl, j2⟩
                  · rw [if_neg e1] at j1
                    by_cases e2 : w = []
                    · exact c0 ⟨j1, by rw [e2]; rfl⟩
                    · rw [if_neg (fun q => e2 q.2)] at j2
                      exact c0 ⟨j1, j2⟩
              refine ⟨?_, i1, fun q => ?_, fun q => ?_⟩
              · unfold chkH
                rw [if_neg (by rw [hrng]; decide), if_neg (by rw [hfld]; decide), if_neg, if_neg (by rw [hall]; decide)]
                have a1 : ((oldL ⟨po, (oldF o w).length, pw, (newF o w).length, l⟩).length : Int) = (oldF o w).length := by
                  unfold oldL
                  rw [i3, List.length_map]
                have a2 : ((newL ⟨po, (oldF o w).length, pw, (newF o w).length, l⟩).length : Int) = (newF o w).length := by
                  unfold newL
                  rw [i4, List.length_map]
                rw [a1, a2]
                simp
              · simp only at q ⊢
                omega
              · simp only at q ⊢
                omega
end Go.Proofs.YtgiojkhmkeocfaaGreatDoor

/- The context form: what is read of a text are right patches, and their texts are read again as the same; plain mathematics. -/
set_option maxRecDepth 20000
namespace Go.Proofs.YtgiojkhmkeocfaaGreatDoor
open Ln

theorem rd_fewer {sg : UInt8} (ls : List (List UInt8)) : ∀ {p p1 : Nat} {r : List (List UInt8)} {x : Sde}, rdS sg p ls = .ok (x, p1, r) → r.length ≤ ls.length := by
  induction ls with
  | nil =>
    intro p p1 r x h
    simp only [rdS] at h
    cases h
    exact Nat.le_refl _
  | cons s ls ih =>
    intro p p1 r x h
    simp only [rdS] at h
    split at h
    · split at h
      · split at h
        · cases h
          simp only [List.length_tail, List.length_cons]
          omega
        · split at h
          · cases h
          · rename_i hr
            have := ih hr
            cases h
            simp only [List.length_cons]
            omega
      · cases h
    · cases h
      exact Nat.le_refl _
theorem cxh_ok {k p p1 : Nat} {ls r : List (List UInt8)} {h : Hk} (hP : Plain ls) (hh : cxH k p ls = .ok (h, p1, r)) : Gh h ∧ Plain r ∧ ls.length + p = r.length + p1 ∧ r.length < ls.length ∧ k < 4096 := by
  unfold cxH at hh
  split at hh
  · cases hh
  · rename_i s r0 hn
    obtain ⟨a1, a2⟩ := nxt_len hP hn
    split at hh
    · split at hh
      · cases hh
      · rename_i hk
        split at hh
        · cases hh
        · rename_i po no r1 h1
          obtain ⟨b1, b2, b3, b4, b5⟩ := rng_ok a2 h1
          split at hh
          · cases hh
          · rename_i o p2 r2 h2
            obtain ⟨c1, c2, c3, c4, _⟩ := rd_ok _ b2 h2
            split at hh
            · cases hh
            · rename_i pw nw r3 h3
              obtain ⟨d1, d2, d3, d4, d5⟩ := rng_ok c1 h3
              split at hh
              · cases hh
              · rename_i w p4 r4 h4
                obtain ⟨e1, e2, e3, e4, _⟩ := rd_ok _ d2 h4
                split at hh
                · cases hh
                · rename_i h5 hf
                  cases hh
                  have hle : r.length + p1 = r3.length + (p2 + 1) := by omega
                  refine ⟨fin_ok ⟨fun y hy => (c2 y hy).1, c3⟩ ⟨fun y hy => (e2 y hy).1, e3⟩ ⟨b3, b4, b5⟩ ⟨d3, d4, d5⟩ hf, e1, by omega, ?_, by omega⟩
                  have g1 := rd_fewer _ h2
                  have g2 := rd_fewer _ h4
                  omega
    · cases hh
theorem cxhs_ok (f : Nat) : ∀ {k p p1 : Nat} {ls r : List (List UInt8)} {hs : List Hk}, Plain ls → cxHs f k p ls = .ok (hs, p1, r) → hs ≠ [] ∧ (∀ h ∈ hs, Gh h) ∧ k + hs.length ≤ 4096 ∧ Plain r ∧ ls.length + p = r.length + p1 ∧ r.length < ls.length := by
  induction f with
  | zero => intro k p p1 ls r hs _ h; cases h
  | succ f ih =>
    intro k p p1 ls r hs hP h
    simp only [cxHs] at h
    split at h
    · cases h
    · rename_i h0 q1 r1 h1
      obtain ⟨a1, a2, a3, a4, a5⟩ := cxh_ok hP h1
      split at h
      · split at h
        · cases h
        · rename_i l q2 r2 h2
          obtain ⟨b1, b2, b3, b4, b5, b6⟩ := ih a2 h2
          cases h
          refine ⟨by simp, ?_, by simp only [List.length_cons]; omega, b4, by omega, by omega⟩
          intro x hx
          rcases List.mem_cons.1 hx with rfl | hx
          · exact a1
          · exact b2 x hx
      · cases h
        refine ⟨by simp, ?_, by simp only [List.length_cons, List.length_nil]; omega, a2, a3, a4⟩
        intro x hx
        rw [List.mem_singleton.1 hx]
        exact a1
theorem nam_ok {ah n : List UInt8} {p : Nat} {ls r : List (List UInt8)} (hP : Plain ls) (h : namP ah p ls = .ok (n, r)) : n.length ≤ 64 ∧ ls.length = r.length + 1 ∧ Plain r := by
  unfold namP at h
  split at h
  · cases h
  · rename_i s r0 hn
    obtain ⟨a1, a2⟩ := nxt_len hP hn
    split at h
    · split at h
      · cases h
      · rename_i m hm
        cases h
        exact ⟨((named_iff _ _).1 hm).2, a1, a2⟩
    · cases h
theorem cxps_ok (f : Nat) : ∀ {k p : Nat} {ls : List (List UInt8)} {L : List Pth}, Plain ls → cxPs f k p ls = .ok L → (∀ q ∈ L, Gp q) ∧ (k + L.length ≤ 64 ∨ L = []) := by
  induction f with
  | zero =>
    intro k p ls L _ h
    simp only [cxPs] at h
    cases h
    exact ⟨fun q hq => (by cases hq), .inr rfl⟩
  | succ f ih =>
    intro k p ls L hP h
    simp only [cxPs] at h
    split at h
    · cases h
      exact ⟨fun q hq => (by cases hq), .inr rfl⟩
    · split at h
      · cases h
      · rename_i n1 r1 h1
        obtain ⟨a1, a2, a3⟩ := nam_ok hP h1
        split at h
        · cases h
        · rename_i hk
          split at h
          · cases h
          · rename_i n2 r2 h2
            obtain ⟨b1, b2, b3⟩ := nam_ok a3 h2
            split at h
            · cases h
            · rename_i hs p3 r3 h3
              obtain ⟨c1, c2, c3, c4, c5, c6⟩ := cxhs_ok _ b3 h3
              split at h
              · cases h
              · rename_i l h4
                obtain ⟨d1, d2⟩ := ih c4 h4
                cases h
                refine ⟨?_, .inl ?_⟩
                · intro q hq
                  rcases List.mem_cons.1 hq with rfl | hq
                  · exact ⟨c1, a1, b1, by show hs.length ≤ 4096; omega, c2⟩
                  · exact d1 q hq
                · rcases d2 with d2 | rfl
                  · simp only [List.length_cons]
                    omega
                  · simp only [List.length_cons, List.length_nil]
                    omega
/-- what is read are right patches -/
theorem cx_right {t : List UInt8} {L : List Pth} (h : cxT t = .ok L) : (∀ q ∈ L, Gp q) ∧ L.length ≤ 64 := by
  unfold cxT at h
  split at h
  · cases h
  · obtain ⟨a1, a2⟩ := cxps_ok _ (split_plain t) h
    refine ⟨a1, ?_⟩
    rcases a2 with a2 | rfl
    · omega
    · exact Nat.zero_le _
end Go.Proofs.YtgiojkhmkeocfaaGreatDoor

/- The context form: how the reference lays both sides together; plain mathematics. -/
set_option maxRecDepth 20000
namespace Go.Proofs.YtgiojkhmkeocfaaGreatDoor
open Ln

theorem jrst_dropR (x : Sde) : rstS x = x.drop (chgS x).length := by
  induction x with
  | nil => rfl
  | cons y x ih =>
    unfold rstS chgS at ih ⊢
    rw [List.dropWhile_cons, List.takeWhile_cons]
    split
    · rw [List.length_cons, List.drop_succ_cons]
      exact ih
    · rfl
theorem jchg_le (x : Sde) : (chgS x).length ≤ x.length := (List.takeWhile_prefix _).length_le
/-- lines ahead of what both sides are as one -/
def thenR (a : List Mk) : Option (List Mk) → Option (List Mk)
  | none => none
  | some l => some (a ++ l)
theorem thenR_nil (X : Option (List Mk)) : thenR [] X = X := by cases X <;> rfl
section
variable {o w : Sde} {i j f : Nat}
theorem jrst_at (x : Sde) (i : Nat) : rstS (x.drop i) = x.drop (i + (chgS (x.drop i)).length) := by rw [jrst_dropR, List.drop_drop]
theorem jn_bad (h : okJ (chgS (o.drop i)) (chgS (w.drop j)) = false) : jnS (f + 1) (o.drop i) (w.drop j) = none := by
  simp only [jnS]
  rw [if_neg (by rw [h]; decide)]
theorem jn_end (h : okJ (chgS (o.drop i)) (chgS (w.drop j)) = true) (hi : o.length ≤ i + (chgS (o.drop i)).length) (hj : w.length ≤ j + (chgS (w.drop j)).length) (a : List Mk) : thenR a (jnS (f + 1) (o.drop i) (w.drop j)) = some (a ++ mkS 45 (chgS (o.drop i)) ++ mkS 43 (chgS (w.drop j))) := by
  simp only [jnS]
  rw [if_pos h, jrst_at, jrst_at, List.drop_eq_nil_of_le hi, List.drop_eq_nil_of_le hj]
  simp [thenR]
theorem jn_odd (h : okJ (chgS (o.drop i)) (chgS (w.drop j)) = true) (hx : o.length ≤ i + (chgS (o.drop i)).length ∧ j + (chgS (w.drop j)).length < w.length ∨ i + (chgS (o.drop i)).length < o.length ∧ w.length ≤ j + (chgS (w.drop j)).length) : jnS (f + 1) (o.drop i) (w.drop j) = none := by
  simp only [jnS]
  rw [if_pos h, jrst_at, jrst_at]
  rcases hx with ⟨h1, h2⟩ | ⟨h1, h2⟩
  · rw [List.drop_eq_nil_of_le h1, List.drop_eq_getElem_cons h2]
  · rw [List.drop_eq_nil_of_le h2, List.drop_eq_getElem_cons h1]
theorem jn_diff (h : okJ (chgS (o.drop i)) (chgS (w.drop j)) = true) (hi : i + (chgS (o.drop i)).length < o.length) (hj : j + (chgS (w.drop j)).length < w.length) (hn : o[i + (chgS (o.drop i)).length].2 ≠ w[j + (chgS (w.drop j)).length].2) : jnS (f + 1) (o.drop i) (w.drop j) = none := by
  simp only [jnS]
  rw [if_pos h, jrst_at, jrst_at, List.drop_eq_getElem_cons hi, List.drop_eq_getElem_cons hj]
  dsimp only
  rw [if_neg hn]
theorem jn_go (h : okJ (chgS (o.drop i)) (chgS (w.drop j)) = true) (hi : i + (chgS (o.drop i)).length < o.length) (hj : j + (chgS (w.drop j)).length < w.length) (hn : o[i + (chgS (o.drop i)).length].2 = w[j + (chgS (w.drop j)).length].2) (a : List Mk) : thenR a (jnS (f + 1) (o.drop i) (w.drop j)) = thenR (a ++ mkS 45 (chgS (o.drop i)) ++ mkS 43 (chgS (w.drop j)) ++ [⟨32, o[i + (chgS (o.drop i)).length].2⟩]) (jnS f (o.drop (i + (chgS (o.drop i)).length + 1)) (w.drop (j + (chgS (w.drop j)).length + 1))) := by
  simp only [jnS]
  rw [if_pos h, jrst_at, jrst_at, List.drop_eq_getElem_cons hi, List.drop_eq_getElem_cons hj]
  dsimp only
  rw [if_pos hn]
  cases jnS f (o.drop (i + (chgS (o.drop i)).length + 1)) (w.drop (j + (chgS (w.drop j)).length + 1)) with
  | none => rfl
  | some l => simp [thenR]
end
/-- the changed lines of a side from a place on, by their number -/
theorem jchg_take (x : Sde) : chgS x = x.take (chgS x).length := by
  have h := List.takeWhile_prefix (fun y : UInt8 × List UInt8 => y.1 != 32) (l := x)
  exact (List.prefix_iff_eq_take.1 h)
theorem jchg_get (x : Sde) (i k : Nat) (hk : k < (chgS (x.drop i)).length) : ∃ h : i + k < x.length, (chgS (x.drop i))[k] = x[i + k] := by
  have h1 := jchg_le (x.drop i)
  rw [List.length_drop] at h1
  have h2 : i + k < x.length := by omega
  refine ⟨h2, ?_⟩
  have h3 : (chgS (x.drop i))[k]? = ((x.drop i).take (chgS (x.drop i)).length)[k]? := congrArg (·[k]?) (jchg_take (x.drop i))
  rw [List.getElem?_take, if_pos hk, List.getElem?_drop, List.getElem?_eq_getElem hk, List.getElem?_eq_getElem h2] at h3
  exact Option.some.inj h3
theorem mkS_snoc (s : Int) (x : Sde) (k : Nat) (hk : k < x.length) : mkS s (x.take (k + 1)) = mkS s (x.take k) ++ [⟨s, x[k].2⟩] := by
  rw [List.take_succ_eq_append_getElem hk]
  unfold mkS
  rw [List.map_append]
  rfl
theorem jchg_ne (x : Sde) : ∀ y ∈ chgS x, y.1 ≠ 32 := by
  induction x with
  | nil => intro y hy; cases hy
  | cons z x ih =>
    unfold chgS at ih ⊢
    intro y hy
    rw [List.takeWhile_cons] at hy
    split at hy
    · rename_i hz
      rcases List.mem_cons.1 hy with rfl | hy
      · simpa using hz
      · exact ih y hy
    · cases hy
/-- the run of changed lines, line by line: another one, or the end -/
theorem jchg_more (x : Sde) (i n : Nat) (h : n ≤ (chgS (x.drop i)).length) (_hi : i ≤ x.length) : (n < (chgS (x.drop i)).length ↔ ∃ h : i + n < x.length, x[i + n].1 ≠ 32) := by
  constructor
  · intro hn
    obtain ⟨h2, h3⟩ := jchg_get x i n hn
    refine ⟨h2, ?_⟩
    rw [← h3]
    exact jchg_ne _ _ (List.getElem_mem hn)
  · rintro ⟨h2, h3⟩
    refine Nat.lt_of_le_of_ne h fun e => ?_
    have h4 := jrst_at x i
    rw [← e, List.drop_eq_getElem_cons h2] at h4
    exact h3 (rst_head h4)
end Go.Proofs.YtgiojkhmkeocfaaGreatDoor

/- The reference's reader of layer 15: walked whether or not a fault stands. -/
set_option maxRecDepth 20000
namespace Go.Proofs.YtgiojkhmkeocfaaGreatDoor
open Go.RowKit
attribute [local go_sem] ByteArray.extract_mk no_at

/-- where the reader stands, or its fault -/
def RdZ (u : World) (R : Nat) (vL : Value) : Except (Nat × Int) Nat → Prop
  | .ok p => Rx u R vL (p : Int) 0 0
  | .error (a, z) => (∃ p' : Nat, Rx u R vL (p' : Int) (a : Int) z) ∧ z ≠ 0
theorem RdZ.keep {u u' : World} {R : Nat} {vL : Value} {st : Except (Nat × Int) Nat} (h : RdZ u R vL st) (hk : ∀ {p fa fe : Int}, Rx u R vL p fa fe → Rx u' R vL p fa fe) : RdZ u' R vL st := by
  match st, h with
  | .ok _, h => exact hk h
  | .error (_, _), ⟨⟨p', h⟩, h2⟩ => exact ⟨⟨p', hk h⟩, h2⟩
theorem RdZ.low {u u' : World} {R : Nat} {vL : Value} {st : Except (Nat × Int) Nat} (h : RdZ u R vL st) (hb : Below u.heap.size u u') : RdZ u' R vL st := h.keep fun q => (hb.block R q.lt).trans q
theorem RdZ.off {u u' : World} {R : Nat} {vL : Value} {st : Except (Nat × Int) Nat} {g : Option Nat} (h : RdZ u R vL st) (hg : u.grownBy u' g) (hr : some R ≠ g) : RdZ u' R vL st := h.keep fun q => (hg.block R q.lt hr).trans q
theorem RdZ.dN {u : World} {R : Nat} {vL : Value} {st : Except (Nat × Int) Nat} (h : RdZ u R vL st) (n : Nat) : RdZ (u.drewN n) R vL st := h.keep fun q => q.dN n
theorem RdZ.lt {u : World} {R : Nat} {vL : Value} {st : Except (Nat × Int) Nat} (h : RdZ u R vL st) : R < u.heap.size := by
  match st, h with
  | .ok _, h => exact Rx.lt h
  | .error (_, _), ⟨⟨_, h⟩, _⟩ => exact Rx.lt h
/-- the fault's reason -/
def feS : Except (Nat × Int) Nat → Int
  | .ok _ => 0
  | .error (_, z) => z
theorem RdZ.fe {u : World} {R : Nat} {vL : Value} {st : Except (Nat × Int) Nat} (h : RdZ u R vL st) : u.cell? ⟨R, 3, none⟩ = some (.int .i64 (feS st)) := by
  match st, h with
  | .ok _, h => exact (Rx.cells h).2.2.2
  | .error (_, _), ⟨⟨_, h⟩, _⟩ => exact (Rx.cells h).2.2.2
/-- the next line -/
def nxZ (L : List (List UInt8)) : Except (Nat × Int) Nat → Except (Nat × Int) (List UInt8 × Nat)
  | .error e => .error e
  | .ok p => match nxt p (L.drop p) with
    | .error e => .error e
    | .ok (s, _) => .ok (s, p + 1)
def NxQ (R : Nat) (vL : Value) (Z : Except (Nat × Int) (List UInt8 × Nat)) (x : Ending) (w' : World) : Prop :=
  match Z with
  | .error e => x = .returned (.string ⟨#[]⟩) ∧ RdZ w' R vL (.error e)
  | .ok (s, p1) => x = .returned (.string ⟨s.toArray⟩) ∧ RdZ w' R vL (.ok p1)
theorem gNext_f {R : Nat} {L : List (List UInt8)} {lo : Option Addr} {lc : Nat} {st : Except (Nat × Int) Nat} (w : World) (q : RdZ w R (.slice lo L.length lc) st) (hL : HS w (.slice lo L.length lc) L) (hR : ∀ a, lo = some a → a.block ≠ R) (hp : ∀ p, st = .ok p → p ≤ 4398046511104) (hs : ∀ s ∈ L, s.length ≤ 1099511627776)
    (Z : Except (Nat × Int) (List UInt8 × Nat)) (hZ : nxZ L st = Z) :
    Calls Tryz.prog 98 #[.pointer (some ⟨R, 0, none⟩)] w fun x w' => NxQ R (.slice lo L.length lc) Z x w' ∧ w.grownBy w' (some R) := by
  match st, q with
  | .error (a, z), ⟨⟨p', q⟩, hz⟩ =>
    subst hZ
    refine (rNext_no w q hz).mono ?_
    rintro x w' ⟨rfl, rfl⟩
    exact ⟨⟨rfl, ⟨p', q⟩, hz⟩, ⟨rfl, rfl, rfl, Nat.le_refl _, fun _ _ _ => rfl⟩⟩
  | .ok p, q =>
    have hp := hp p rfl
    unfold nxZ at hZ
    dsimp only at hZ
    by_cases hlt : p < L.length
    · rw [nxt_drop hlt] at hZ
      have hsl := hs L[p] (List.getElem_mem hlt)
      cases hf : fdB L[p] with
      | true =>
        rw [if_pos hf] at hZ
        subst hZ
        refine (rNext_ok w q hL hR hp hlt rfl hsl hf).mono ?_
        rintro x w' ⟨rfl, h1, h2⟩
        exact ⟨⟨rfl, by show Rx _ _ _ _ _ _; simpa using h1⟩, h2⟩
      | false =>
        rw [if_neg (by rw [hf]; decide)] at hZ
        subst hZ
        refine (rNext_bad w q hL hR hp hlt rfl hsl hf).mono ?_
        rintro x w' ⟨rfl, h1, h2⟩
        exact ⟨⟨rfl, ⟨p + 1, by simpa using h1⟩, by decide⟩, h2⟩
    · rw [nxt_end (by omega)] at hZ
      subst hZ
      refine (rNext_end w q hL hR hp (by omega)).mono ?_
      rintro x w' ⟨rfl, h1, h2⟩
      exact ⟨⟨rfl, ⟨p + 1, by simpa using h1⟩, by decide⟩, h2⟩
/-- does the next line begin so? -/
def pkG (sg : List UInt8) : List (List UInt8) → Bool
  | [] => false
  | s :: _ => sg.isPrefixOf s
def pkZ (sg : List UInt8) (L : List (List UInt8)) : Except (Nat × Int) Nat → Bool
  | .error _ => false
  | .ok p => pkG sg (L.drop p)
set_option maxHeartbeats 4000000 in
theorem gPeek_f {R : Nat} {L : List (List UInt8)} {lo : Option Addr} {lc : Nat} {st : Except (Nat × Int) Nat} (sg : List UInt8) (w : World) (q : RdZ w R (.slice lo L.length lc) st) (hL : HS w (.slice lo L.length lc) L) (hs : ∀ s ∈ L, s.length ≤ 1099511627776) (hsg : sg.length ≤ 1099511627776) (b : Bool) (HB : Hid (pkZ sg L st = b)) :
    Calls Tryz.prog 56 #[.pointer (some ⟨R, 0, none⟩), .string ⟨sg.toArray⟩] w fun x w' => x = .returned (.bool b) ∧ ∃ m, w' = w.drewN m := by
  match st, q, HB with
  | .error (a, z), ⟨⟨p, q⟩, hz⟩, HB =>
    have hb : b = false := HB.out.symm
    subst hb
    clear HB
    go_enter Tryz.func56, Tryz.ntmps56
    go_wp2_with fail
    refine (rMore_f w q).mono ?_
    rintro e w1 ⟨rfl, m, rfl⟩
    have hmr : (decide (z = 0) && decide (p < L.length)) = false := by simp [hz]
    rw [hmr]
    go_wp2
    go_ret
    exact ⟨rfl, m, rfl⟩
  | .ok p, q, HB =>
  by_cases hlt : p < L.length
  · have hd : L.drop p = L[p] :: L.drop (p + 1) := List.drop_eq_getElem_cons hlt
    have hb := HB.out
    unfold pkZ at hb
    dsimp only at hb
    rw [hd] at hb
    simp only [pkG] at hb
    obtain ⟨bk, off, rfl, hbk, hcl⟩ := HS.at hL (by omega)
    have d4 := hcl p hlt
    have hsl := hs L[p] (List.getElem_mem _)
    rw [pre_take] at hb
    generalize L[p] = s at d4 hsl hb
    clear hcl hd hs HB hL
    have qq : Rx w R (.slice (some ⟨bk, off, none⟩) L.length lc) (p : Int) 0 0 := q
    obtain ⟨c0, c1, c2, c3⟩ := qq.cells
    go_enter Tryz.func56, Tryz.ntmps56
    go_wp2_with fail
    refine (rMore_f w qq).mono ?_
    rintro e w1 ⟨rfl, m, rfl⟩
    have hmr : (decide ((0 : Int) = 0) && decide (p < L.length)) = true := by simp [hlt]
    rw [hmr]
    have f0 : (w.drewN m).cell? ⟨R, 0, none⟩ = _ := c0
    have f1 : (w.drewN m).cell? ⟨R, 1, none⟩ = _ := c1
    have f4 : (w.drewN m).cell? ⟨bk, off + p, none⟩ = _ := d4
    clear c0 c1 c2 c3 d4 q qq hmr
    have HM : Hid (∀ n, ∃ k, (w.drewN m).drewN n = w.drewN k) := fun n => ⟨_, World.drewN_drewN w m n⟩
    generalize w.drewN m = W1 at f0 f1 f4 HM ⊢
    go_wp2_with fail
    have j1 : (0 : Int) ≤ (p : Int) := by omega
    have j2 : (p : Int) < (L.length : Int) := by omega
    have j3 : (p : Int).toNat = p := by omega
    go_quiet (fail)
    by_cases hlen : sg.length ≤ s.length
    · have h1 : (sg.length : Int) ≤ (s.length : Int) := by omega
      have h0 : (0 : Int) ≤ (sg.length : Int) := by omega
      have h2 : (s.take sg.length == sg) = b := by rw [← hb]; simp [hlen]
      go_wp2
      go_ret
      refine ⟨?_, HM.out _⟩
      rw [← h2]
      rfl
    · have h1 : ¬ (sg.length : Int) ≤ (s.length : Int) := by omega
      have h2 : b = false := by rw [← hb]; simp [hlen]
      subst h2
      go_wp2
      go_ret
      exact ⟨rfl, HM.out _⟩
  · have hd : L.drop p = [] := List.drop_eq_nil_of_le (by omega)
    have hb := HB.out
    unfold pkZ at hb
    dsimp only at hb
    rw [hd] at hb
    simp only [pkG] at hb
    subst hb
    go_enter Tryz.func56, Tryz.ntmps56
    go_wp2_with fail
    refine (rMore_f w (show Rx w R (.slice lo L.length lc) (p : Int) 0 0 from q)).mono ?_
    rintro e w1 ⟨rfl, m, rfl⟩
    have hmr : (decide ((0 : Int) = 0) && decide (p < L.length)) = false := by simp [hlt]
    rw [hmr]
    go_wp2
    go_ret
    exact ⟨rfl, m, rfl⟩
end Go.Proofs.YtgiojkhmkeocfaaGreatDoor

/- The library's contract on a fresh strings.Builder's copy check at this program: the program bears the bodies that it speaks of. -/
set_option maxRecDepth 20000
namespace Go.Proofs
open Go.Shelf
def Tryz.lays240_ren : Go.Shelf.Ren := ⟨fun | 240 => 80 | 276 => 133 | n => n, fun | 0 => 0 | 4 => 4 | 9 => 9 | 20 => 20 | 70 => 74 | 72 => 77 | 37 => 75 | 164 => 143 | n => n, fun | n => n⟩
theorem Tryz.lays240 : Go.Proofs.Lays.n240 Tryz.prog Tryz.lays240_ren := {
  mixed := by kernel_rfl
  f240 := Tryz.func80.trans (congrArg some (by kernel_rfl))
  f276 := Tryz.func133.trans (congrArg some (by kernel_rfl))
  t0 := Tryz.underlying0
  a0 := Tryz.isAgg0
  z0 := Tryz.sizeOf0
  v0 := Tryz.zeroValue0
  t4 := Tryz.underlying4
  a4 := Tryz.isAgg4
  z4 := Tryz.sizeOf4
  v4 := Tryz.zeroValue4
  t9 := Tryz.underlying9
  a9 := Tryz.isAgg9
  z9 := Tryz.sizeOf9
  v9 := Tryz.zeroValue9
  t20 := Tryz.underlying20
  a20 := Tryz.isAgg20
  z20 := Tryz.sizeOf20
  v20 := Tryz.zeroValue20
  t70 := Tryz.underlying74
  a70 := Tryz.isAgg74
  z70 := Tryz.sizeOf74
  v70 := Tryz.zeroValue74
  t72 := Tryz.underlying77
  a72 := Tryz.isAgg77
  z72 := Tryz.sizeOf77
  v72 := Tryz.zeroValue77
  t164 := Tryz.underlying143
  a164 := Tryz.isAgg143
  z164 := Tryz.sizeOf143
  v164 := Tryz.zeroValue143 }
theorem Tryz.Builder_X72_240 : Builder.X72 Tryz.prog Tryz.lays240_ren := {
  sizeBuilder := by kernel_rfl
  liesBuilder := by kernel_rfl }
theorem Tryz.copyCheck_fresh (b : Nat) (w : World) (h0 : w.cell? ⟨b, 0, none⟩ = some (.pointer none)) (hsh : w.shape? b = some (77, 2)) (hfz : w.frozen? ⟨b, 0, none⟩ = false) :
    Calls Tryz.prog 80 #[.pointer (some ⟨b, 0, none⟩)] w fun e w' => e = .returned (.tuple #[]) ∧ w' = w.setCell ⟨b, 0, none⟩ (.pointer (some ⟨b, 0, none⟩)) := Any.Builder_copyCheck_fresh Tryz.lays240 Tryz.Builder_X72_240 b w h0 hsh hfz
theorem Tryz.copyCheck_used (b : Nat) (w : World) (h0 : w.cell? ⟨b, 0, none⟩ = some (.pointer (some ⟨b, 0, none⟩))) :
    Calls Tryz.prog 80 #[.pointer (some ⟨b, 0, none⟩)] w fun e w' => e = .returned (.tuple #[]) ∧ w' = w := Any.Builder_copyCheck_used Tryz.lays240 Tryz.Builder_X72_240 b w h0
end Go.Proofs

/- Small functions of layer num and of the reference, and the writing of a byte into a builder, walked. -/
set_option maxRecDepth 20000
namespace Go.Proofs.YtgiojkhmkeocfaaGreatDoor
open Q Go.RowKit Go.Proofs.YtgiojkhmkeocfaaGreatDoor.Tx
attribute [local go_sem] ba_at hexl_at

set_option maxHeartbeats 400000 in
theorem isPlain_any (n : Int) (w : World) :
    Calls Tryz.prog 163 #[.int .u8 n] w fun e w' => e = .returned (.bool (plainI n)) ∧ w = w' := by
  go_enter Tryz.func163, Tryz.ntmps163
  go_wp2
  all_goals go_ret
  all_goals exact ⟨ret_bool (by rw [Bool.eq_iff_iff]; simp [plainI]; omega), rfl⟩

set_option maxHeartbeats 400000 in
theorem plain_any (n : Int) (w : World) :
    Calls Tryz.prog 217 #[.int .u8 n] w fun e w' => e = .returned (.bool (plainI n)) ∧ w = w' := by
  go_enter Tryz.func217, Tryz.ntmps217
  go_wp2
  all_goals go_ret
  all_goals exact ⟨ret_bool (by rw [Bool.eq_iff_iff]; simp [plainI]; omega), rfl⟩

theorem infoU8 : (Tryz.prog.info? 5).map (fun i => (i.zero, i.size, i.bytes)) = some (some (.int .u8 0), 1, 1) := by kernel_rfl
theorem copyCheck_any (B b : Nat) (v : Value) (bs : List Value) (w : World) (h : Bld 77 5 B b v bs w) :
    Calls Tryz.prog 80 #[.pointer (some ⟨b, 0, none⟩)] w fun e w' => e = .returned (.tuple #[]) ∧ w'.heap[b]? = some (.cells #[.pointer (some ⟨b, 0, none⟩), v] 77 (0, 0)) ∧ Bld 77 5 B b v bs w' ∧ Hid (∀ k, k ≠ b → w'.heap[k]? = w.heap[k]?) ∧ Below B w w' := by
  have h' := h
  obtain ⟨hB, ⟨p, hp, hbk⟩, hown, hne⟩ := h
  have hlt : b < w.heap.size := (Array.getElem?_eq_some_iff.1 hbk).1
  have c0 : w.cell? ⟨b, 0, none⟩ = some p := by rw [Lib.cell_of_heap hbk]; rfl
  have f0 : w.frozen? ⟨b, 0, none⟩ = false := Lib.frozen_of_heap hbk 0
  rcases hp with rfl | rfl
  · refine (Tryz.copyCheck_fresh b w c0 (by simp [World.shape?, hbk]) f0).mono ?_
    rintro e w' ⟨rfl, rfl⟩
    have hb' : (w.setCell ⟨b, 0, none⟩ (.pointer (some ⟨b, 0, none⟩))).heap[b]? = some (.cells #[.pointer (some ⟨b, 0, none⟩), v] 77 (0, 0)) := by
      simp only [World.setCell, Array.getElem?_modify, hbk]
      simp
    have ho : ∀ k, k ≠ b → (w.setCell ⟨b, 0, none⟩ (.pointer (some ⟨b, 0, none⟩))).heap[k]? = w.heap[k]? := fun k hk => Below.heap_setCell w _ _ k hk
    refine ⟨rfl, hb', ⟨hB, ⟨_, .inr rfl, hb'⟩, ?_, hne⟩, ho, (Below.refl B w).setCell (p := ⟨b, 0, none⟩) hB _⟩
    refine ⟨hown.1, ?_⟩
    rcases hown.2 with h | ⟨g, cap, cur, fz, q1, q2, q3, q4⟩
    · exact .inl h
    · exact .inr ⟨g, cap, cur, fz, q1, q2, (ho g (fun e => hne (by rw [q1, e]; rfl))).trans q3, q4⟩
  · refine (Tryz.copyCheck_used b w c0).mono ?_
    rintro e w' ⟨rfl, rfl⟩
    exact ⟨rfl, hbk, h', fun _ _ => rfl, Below.refl B _⟩

set_option maxHeartbeats 2000000 in
set_option maxRecDepth 100000 in
theorem WriteByte_any (B b : Nat) (v : Value) (bs : List Value) (c : Int) (w : World) (h : Bld 77 5 B b v bs w) (hlen : bs.length + 1 ≤ 140737488355328) (hBw : B ≤ w.heap.size) :
    Calls Tryz.prog 122 #[.pointer (some ⟨b, 0, none⟩), .int .u8 c] w fun e w' => e = .returned .nilIface ∧ ∃ v', Bld 77 5 B b v' (bs ++ [.int .u8 c]) w' ∧ Go.Proofs.YtgiojkhmkeocfaaGreatDoor.Tx.Aside b v w w' ∧ Fresh v v' w ∧ Below B w w' := by
  obtain ⟨i0, hi, hz0, hz1, hz2⟩ := info_parts infoU8
  go_enter Tryz.func122, Tryz.ntmps122
  go_wp2_with (go_at_call 80; refine (copyCheck_any B b v bs _ h).mono ?_)
  rintro e w1 ⟨rfl, hbk, ⟨hB, _, hown, hne⟩, ho1, hb1⟩
  have c0 : w1.cell? ⟨b, 0, none⟩ = some (.pointer (some ⟨b, 0, none⟩)) := by rw [Lib.cell_of_heap hbk]; rfl
  have c1 : w1.cell? ⟨b, 1, none⟩ = some v := by rw [Lib.cell_of_heap hbk]; rfl
  have hlt : b < w1.heap.size := (Array.getElem?_eq_some_iff.1 hbk).1
  go_wp2_with (at_builtin; refine wpList_append_ownX _ rfl _ _ 75 rfl B 5 i0 (.int .u8 0) 1 1 Tryz.underlying75 hi hz0 hz1 hz2 rfl (by decide) _ _ _ rfl (hown.alloc _) ⟨w1.heap.size, 0, none⟩ 1 1 [.int .u8 c] rfl rfl ?c1 ?c2 ?c3 ?c4 ?c5 ?_)
  case c1 =>
    intro j u hj
    match j, hj with
    | 0, hj => simp at hj; subst hj; simp [Addr.add]
  case c2 => intro u hu; simp at hu; subst hu; rfl
  case c3 => unfold maxLen; omega
  case c4 => omega
  case c5 => have := hb1.size; simp; omega
  intro v' w2 hown' hgrow hfr
  have hb2 : w2.heap[b]? = some (.cells #[.pointer (some ⟨b, 0, none⟩), v] 77 (0, 0)) := by
    rw [hgrow.block b (by simp; omega) (fun e => hne e.symm), Lib.alloc_old w1 _ b hlt]
    exact hbk
  have d0 : w2.cell? ⟨b, 0, none⟩ = some (.pointer (some ⟨b, 0, none⟩)) := by rw [Lib.cell_of_heap hb2]; rfl
  have d1 : w2.cell? ⟨b, 1, none⟩ = some v := by rw [Lib.cell_of_heap hb2]; rfl
  have f1 : w2.frozen? ⟨b, 1, none⟩ = false := Lib.frozen_of_heap hb2 1
  obtain ⟨g, cap, rfl⟩ : ∃ g cap, v' = .slice (some ⟨g, 0, none⟩) (bs.length + 1) cap := by
    rcases hown'.2 with ⟨_, h0⟩ | ⟨g, cap, cur, fz, hv, _⟩
    · omega
    · exact ⟨g, cap, hv⟩
  go_wp2
  go_ret
  refine ⟨rfl, _, Bld.put hB (.inr rfl) hb2 (by simpa using hown') (by decide), ?_, ?_, ?_⟩
  · intro k hk hkb hkv
    rw [Below.heap_setCell w2 _ _ k hkb, hgrow.block k (by have := hb1.size; simp; omega) (fun e => hkv e.symm), Lib.alloc_old w1 _ k (by have := hb1.size; omega)]
    exact ho1.out k hkb
  · rcases hfr with h | ⟨g', h, h2⟩
    · exact .inl h
    · exact .inr ⟨g', h, by have := hb1.size; omega⟩
  · exact ((hb1.alloc (by have := hb1.size; omega) _).grown hgrow (by have := hb1.size; simp; omega) (fun k hk => (hown.lt k hk).1)).setCell (p := ⟨b, 1, none⟩) hB _


set_option maxHeartbeats 1000000 in
theorem digit_any (n : Int) (w : World) :
    Calls Tryz.prog 218 #[.int .u8 n] w fun e w' => e = .returned (.int .i64 (digitI n)) ∧ w = w' := by
  go_enter Tryz.func218, Tryz.ntmps218
  go_wp2
  go_loop [3] (fun i => ∃ k : Nat, k ≤ 16 ∧ i = .int .i64 k ∧ ∀ j, j < k → ((hexc j).toNat : Int) ≠ n) (fun i => 16 - (intOf i).toNat)
  case atStart => exact ⟨0, by omega, rfl, by intro j hj; omega⟩
  case round =>
    obtain ⟨k, hk, rfl, hno⟩ := hrel
    have HN : Hid (∀ j, j < k → ((hexc j).toNat : Int) ≠ n) := hno
    clear hno
    by_cases hlt : k < 16
    · by_cases heq : ((hexc k).toNat : Int) = n
      · have hb : (((hexc k).toNat : Int) == n) = true := by simp [heq]
        have HE : Hid ((k : Int) = digitI n) := by show (k : Int) = digitI n; rw [← heq, digit_hexc k hlt]
        clear heq
        go_wp2
        go_ret
        exact ⟨ret_int HE.out, rfl⟩
      · have hb : (((hexc k).toNat : Int) == n) = false := by simp [heq]
        go_wp2
        exact ⟨⟨k + 1, by omega, by go_num, fun j hj => if h : j = k then h ▸ heq else HN.out j (by omega)⟩, by simp [intOf]; omega⟩
    · go_wp2
      go_ret
      exact ⟨ret_int (digit_none n (fun j hj => HN.out j (by omega))).symm, rfl⟩
end Go.Proofs.YtgiojkhmkeocfaaGreatDoor

/- The plain Quote of the reference, walked: what it returns is the plain function quote of the text. -/
set_option maxRecDepth 20000
namespace Go.Proofs.YtgiojkhmkeocfaaGreatDoor
open Q Go.RowKit Go.Proofs.YtgiojkhmkeocfaaGreatDoor.Tx
attribute [local go_sem] ba_at hexl_at

set_option maxHeartbeats 2000000 in
set_option maxRecDepth 100000 in
theorem refQuote_any (l : List UInt8) (w : World) (hl : l.length ≤ 1099511627776) :
    Calls Tryz.prog 219 #[.string ⟨l.toArray⟩] w fun e w' => e = .returned (.string ⟨(quote l).toArray⟩) ∧ Below w.heap.size w w' := by
  obtain ⟨i0, hi, hz0, hz1, hz2⟩ := info_parts infoU8
  go_enter Tryz.func219, Tryz.ntmps219
  go_wp2
  go_loopw [3, 4] (fun out i wr => ∃ (k : Nat) (acc : List UInt8), k ≤ l.length ∧ i = .int .i64 k ∧ wr.ownsRowF w.heap.size 5 1 out acc.length (Lib.byteCells acc) ∧ Below w.heap.size w wr ∧ acc ++ qbody (l.drop k) = [34] ++ qbody l ∧ acc.length ≤ 3 * k + 1) (fun _ i _ => l.length - (intOf i).toNat)
  case atStart =>
    refine ⟨0, [34], Nat.zero_le _, rfl, ?_, (Below.refl _ w).alloc (Nat.le_refl _) _, rfl, by simp⟩
    exact ⟨rfl, .inr ⟨w.heap.size, 1, _, (0, 0), rfl, Nat.le_refl _, _root_.Go.heap_alloc_new w _, by simp, by simp, by simp [maxLen], rfl, rfl⟩⟩
  case round =>
    obtain ⟨k, acc, hk, rfl, hown, hbr, hacc, hal⟩ := hrel
    by_cases hlt : k < l.length
    · have hdk : l.drop k = l[k] :: l.drop (k + 1) := List.drop_eq_getElem_cons hlt
      have HD : Hid (acc ++ (q1 l[k] ++ qbody (l.drop (k + 1))) = [34] ++ qbody l) := by
        rw [hdk] at hacc
        exact hacc
      clear hacc hdk
      have hx : l[k].toNat < 256 := (l[k]).toNat_lt
      go_wp2_with fail
      refine (plain_any _ _).mono ?_
      rintro e w' ⟨rfl, rfl⟩
      cases hpl : plainI l[k].toNat
      · have HP : Hid (q1 l[k] = [92, hexc (l[k].toNat / 16), hexc (l[k].toNat % 16)]) := by
          show q1 l[k] = _
          simp [q1, hpl]
        have hw1 : IntKind.u8.wrap ((l[k].toNat : Int) / 16) = (l[k].toNat : Int) / 16 := wrap_u8 (by omega) (by omega)
        have hw2 : ((l[k].toNat : Int)).tmod 16 = (l[k].toNat : Int) % 16 := Int.tmod_eq_emod_of_nonneg (by omega)
        have hd1 : ((l[k].toNat : Int) / 16) < 16 := by omega
        have hd2 : ((l[k].toNat : Int) % 16) < 16 := by omega
        have hd3 : 0 ≤ ((l[k].toNat : Int) / 16) := by omega
        have hd4 : 0 ≤ ((l[k].toNat : Int) % 16) := by omega
        have e1 : ((l[k].toNat : Int) / 16).toNat = l[k].toNat / 16 := by omega
        have e2 : ((l[k].toNat : Int) % 16).toNat = l[k].toNat % 16 := by omega
        go_wp2_with fail
        go_region_law (refine step_append_ownX rfl (.tmp 22) (.tmp 33) 75 rfl w.heap.size 5 i0 (.int .u8 0) 1 1 Tryz.underlying75 hi hz0 hz1 hz2 rfl (by decide) u3 acc.length (Lib.byteCells acc) (by simp [Act.eval]) (hown.alloc _) ⟨wr.heap.size, 0, none⟩ 3 3 [.int .u8 92, .int .u8 (hexc (l[k].toNat / 16)).toNat, .int .u8 (hexc (l[k].toNat % 16)).toNat] (by simp [Act.eval]) rfl (new_cells _ _ _) (by simp [Value.oneCell']) (by unfold maxLen; omega) (by omega) (by have := hbr.size; simp; omega) ?_; intro v' w2 hown' hgrow hfr)
        all_goals
          go_wp2
          go_roundw
          case rel =>
            refine ⟨k + 1, acc ++ [92, hexc (l[k].toNat / 16), hexc (l[k].toNat % 16)], by omega, by go_num, ?_, (hbr.drew.alloc hbr.size _).grown hgrow (by have := hbr.size; simp; omega) (fun j hj => (hown.lt j hj).1), by rw [← HD.out, HP.out]; simp, by simp; omega⟩
            rw [Lib.byteCells_append]
            simpa [Lib.byteCells] using hown'
          case measure => simp [intOf]; omega
      · have HP : Hid (q1 l[k] = [l[k]]) := by
          show q1 l[k] = _
          simp [q1, hpl]
        go_wp2_with (at_builtin; refine wpList_append_ownX _ rfl _ _ 75 rfl w.heap.size 5 i0 (.int .u8 0) 1 1 Tryz.underlying75 hi hz0 hz1 hz2 rfl (by decide) _ _ _ rfl (hown.alloc _) ⟨wr.heap.size, 0, none⟩ 1 1 [.int .u8 (l[k].toNat : Int)] rfl rfl (new_cells _ _ _) (one_cell _ _) ?c3 ?c4 ?c5 ?_)
        case c3 => unfold maxLen; omega
        case c4 => omega
        case c5 => have := hbr.size; simp; omega
        intro v' w2 hown' hgrow hfr
        go_wp2
        go_roundw
        case rel => exact ⟨k + 1, acc ++ [l[k]], by omega, by go_num, by rw [byteCells_snoc]; simpa using hown', (hbr.alloc hbr.size _).grown hgrow (by have := hbr.size; simp; omega) (fun j hj => (hown.lt j hj).1), by rw [← HD.out, HP.out]; simp, by simp; omega⟩
        case measure => simp [intOf]; omega
    · have HD : Hid (acc = [34] ++ qbody l) := by
        have e : l.drop k = [] := List.drop_eq_nil_of_le (by omega)
        rw [e] at hacc
        show acc = _
        simpa [qbody] using hacc
      clear hacc
      go_wp2_with (at_builtin; refine wpList_append_ownX _ rfl _ _ 75 rfl w.heap.size 5 i0 (.int .u8 0) 1 1 Tryz.underlying75 hi hz0 hz1 hz2 rfl (by decide) _ _ _ rfl (hown.alloc _) ⟨wr.heap.size, 0, none⟩ 1 1 [.int .u8 34] rfl rfl (new_cells _ _ _) (one_cell _ _) ?c3 ?c4 ?c5 ?_)
      case c3 => unfold maxLen; omega
      case c4 => omega
      case c5 => have := hbr.size; simp; omega
      intro v' w2 hown' hgrow hfr
      have hcs := conv_string (P := Tryz.prog) w2 75 9 5 w.heap.size v' (acc ++ [34]) Tryz.underlying75 Tryz.underlying5 Tryz.underlying9 (by rw [byteCells_snoc]; simpa using hown')
      go_wp2
      go_ret
      rw [HD.out]
      exact ⟨rfl, (hbr.alloc hbr.size _).grown hgrow (by have := hbr.size; simp; omega) (fun j hj => (hown.lt j hj).1)⟩
end Go.Proofs.YtgiojkhmkeocfaaGreatDoor

/- The append of a text onto an owned row of bytes, with the place of the new row told; what a writer leaves as it was. Of no program. -/
set_option maxRecDepth 20000
namespace Go.Proofs.YtgiojkhmkeocfaaGreatDoor
open Go.RowKit Go.Proofs.YtgiojkhmkeocfaaGreatDoor.Tx Go.Lib

section
variable {P : Program} (w : World)
end
/-- a writer of the builder in block b, whose buffer was v and is v': all else is as it was -/
structure Wr (B b : Nat) (v v' : Value) (w w' : World) : Prop where
  aside : Go.Proofs.YtgiojkhmkeocfaaGreatDoor.Tx.Aside b v w w'
  fresh : Fresh v v' w
  below : Below B w w'
theorem Wr.refl (B b : Nat) (v : Value) (w : World) : Wr B b v v w w := ⟨fun _ _ _ _ => rfl, .inl rfl, Below.refl B w⟩
theorem Wr.trans {B b : Nat} {v v1 v2 : Value} {w w1 w2 : World} (h : Wr B b v v1 w w1) (h' : Wr B b v1 v2 w1 w2) : Wr B b v v2 w w2 := by
  have hsz := h.below.size
  have hn : ∀ k, k < w.heap.size → v.ownBlock ≠ some k → v1.ownBlock ≠ some k := by
    intro k hk hv
    rcases h.fresh with q | ⟨g, q, hg⟩
    · rw [q]; exact hv
    · rw [q]
      intro e
      have := Option.some.inj e
      omega
  refine ⟨fun k hk hb hv => (h'.aside k (by omega) hb (hn k hk hv)).trans (h.aside k hk hb hv), ?_, h.below.trans h'.below⟩
  rcases h'.fresh with q | ⟨g, q, hg⟩
  · rcases h.fresh with q2 | ⟨g, q2, hg⟩
    · exact .inl (q.trans q2)
    · exact .inr ⟨g, q.trans q2, hg⟩
  · exact .inr ⟨g, q, by omega⟩
/-- what does not touch the builder, in the middle -/
theorem Wr.low {B b : Nat} {v : Value} {w w1 : World} (h : Below w.heap.size w w1) (hB : B ≤ w.heap.size) : Wr B b v v w w1 := ⟨fun k hk _ _ => h.block k hk, .inl rfl, h.mono hB⟩
theorem Wr.size {B b : Nat} {v v' : Value} {w w' : World} (h : Wr B b v v' w w') : w.heap.size ≤ w'.heap.size := h.below.size
/-- a block that is neither the builder's nor its buffer's -/
def Off (k : Nat) (b : Nat) (v : Value) : Prop := k ≠ b ∧ v.ownBlock ≠ some k
theorem Wr.block {B b : Nat} {v v' : Value} {w w' : World} (h : Wr B b v v' w w') {k : Nat} {o : Obj} (hk : w.heap[k]? = some o) (ho : Off k b v) : w'.heap[k]? = some o ∧ Off k b v' := by
  have hlt : k < w.heap.size := (Array.getElem?_eq_some_iff.1 hk).1
  refine ⟨(h.aside k hlt ho.1 ho.2).trans hk, ho.1, ?_⟩
  rcases h.fresh with q | ⟨g, q, hg⟩
  · rw [q]; exact ho.2
  · rw [q]
    intro e
    have := Option.some.inj e
    omega
end Go.Proofs.YtgiojkhmkeocfaaGreatDoor

/- A strings.Builder that lies in a block of whatever type, alone or embedded: its copy check, and how bytes and texts are written into it, walked. -/
set_option maxRecDepth 20000
namespace Go.Proofs.YtgiojkhmkeocfaaGreatDoor
open Go.RowKit Go.Proofs.YtgiojkhmkeocfaaGreatDoor.Tx

end Go.Proofs.YtgiojkhmkeocfaaGreatDoor

/- num.Quote, walked: what it returns is the plain function 'quote' of the text. -/
set_option maxRecDepth 20000
namespace Go.Proofs.YtgiojkhmkeocfaaGreatDoor
open Q Go.RowKit Go.Proofs.YtgiojkhmkeocfaaGreatDoor.Tx

set_option maxHeartbeats 2000000 in
set_option maxRecDepth 100000 in
theorem Quote_any (l : List UInt8) (w : World) (hl : l.length ≤ 1099511627776) :
    Calls Tryz.prog 110 #[.string ⟨l.toArray⟩] w fun e w' => e = .returned (.string ⟨(quote l).toArray⟩) ∧ Below w.heap.size w w' := by
  go_enter Tryz.func110, Tryz.ntmps110
  go_wp2_with fail
  refine (WriteByte_any w.heap.size w.heap.size (.slice none 0 0) [] 34 _ (Bld.fresh 77 5 w) (by simp) (by simp)).mono ?_
  rintro e w1 ⟨rfl, v1, hB1, ha1, hf1, hb1⟩
  obtain ⟨cap, C, fz, w2, hcv, hR, hC, hb2, hlt2⟩ := conv_bytes (P := Tryz.prog) w1 9 75 5 l Tryz.underlying9 Tryz.underlying75 Tryz.underlying5
  have hB2 := hB1.kept (below_all hb2)
  have hRb : Beside w1.heap.size (.cells C 5 fz) w.heap.size v1 w2 := ⟨hR, by have := hB1.lt; omega, by
    intro e
    have := (hB1.2.2.1.lt _ e).2
    omega⟩
  have hbw : Below w.heap.size w w2 := (((Below.refl _ w).alloc (Nat.le_refl _) _).trans hb1).trans (hb2.mono (by have := hb1.size; simp at this; omega))
  generalize hRR : w1.heap.size = R at *
  have HR : Hid (w1.heap.size = R) := hRR
  clear hRR
  go_wp2
  go_loopw [10] (fun i wr => ∃ (k : Nat) (acc : List UInt8) (v : Value), k ≤ l.length ∧ i = .int .i64 k ∧ Bld 77 5 w.heap.size w.heap.size v (Lib.byteCells acc) wr ∧ Beside R (.cells C 5 fz) w.heap.size v wr ∧ Below w.heap.size w wr ∧ acc ++ qbody (l.drop k) = [34] ++ qbody l ∧ acc.length ≤ 3 * k + 1) (fun i _ => l.length - (intOf i).toNat)
  case atStart => exact ⟨0, [34], v1, Nat.zero_le _, rfl, hB2, hRb, hbw, rfl, by simp⟩
  case round =>
    obtain ⟨k, acc, v, hk, rfl, hB, hR', hbr, hacc, hal⟩ := hrel
    by_cases hlt : k < l.length
    · have hc := (hR'.cell k).trans (hC k hlt)
      have hdk : l.drop k = l[k] :: l.drop (k + 1) := List.drop_eq_getElem_cons hlt
      have HD : Hid (acc ++ (q1 l[k] ++ qbody (l.drop (k + 1))) = [34] ++ qbody l) := by
        rw [hdk] at hacc
        exact hacc
      clear hacc hdk
      generalize l[k] = x at *
      have hx : x.toNat < 256 := x.toNat_lt
      go_wp2_with fail
      refine (isPlain_any _ _).mono ?_
      rintro e w' ⟨rfl, rfl⟩
      cases hpl : plainI x.toNat
      · have HP : Hid (q1 x = [92, hexc (x.toNat / 16), hexc (x.toNat % 16)]) := by
          show q1 x = _
          simp [q1, hpl]
        go_wp2_with fail
        refine (WriteByte_any w.heap.size w.heap.size v _ 92 _ hB (by rw [Lib.byteCells_length]; omega) (by have := hbr.size; omega)).mono ?_
        rintro e w3 ⟨rfl, v3, hB3, ha3, hf3, hb3⟩
        go_wp2_with fail
        rw [hex_at]
        refine (WriteByte_any w.heap.size w.heap.size v3 _ _ _ hB3 (by simp [Lib.byteCells_length]; omega) (by have := hbr.size; have := hb3.size; omega)).mono ?_
        rintro e w4 ⟨rfl, v4, hB4, ha4, hf4, hb4⟩
        go_wp2_with fail
        rw [hex_at]
        refine (WriteByte_any w.heap.size w.heap.size v4 _ _ _ hB4 (by simp [Lib.byteCells_length]; omega) (by have := hbr.size; have := hb3.size; have := hb4.size; omega)).mono ?_
        rintro e w5 ⟨rfl, v5, hB5, ha5, hf5, hb5⟩
        go_wp2
        go_roundw
        case rel =>
          refine ⟨k + 1, acc ++ [92, hexc (x.toNat / 16), hexc (x.toNat % 16)], v5, by omega, by go_num, ?_, ((hR'.step ha3 hf3).step ha4 hf4).step ha5 hf5, ((hbr.trans hb3).trans hb4).trans hb5, by rw [← HD.out, HP.out]; simp, by simp; omega⟩
          have e : Lib.byteCells (acc ++ [92, hexc (x.toNat / 16), hexc (x.toNat % 16)]) = Lib.byteCells acc ++ [.int .u8 92] ++ [.int .u8 (hexc (x.toNat / 16)).toNat] ++ [.int .u8 (hexc (x.toNat % 16)).toNat] := by
            rw [Lib.byteCells_append]; simp [Lib.byteCells]
          rw [e]
          exact hB5
        case measure => simp [intOf]; omega
      · have HP : Hid (q1 x = [x]) := by
          show q1 x = _
          simp [q1, hpl]
        go_wp2_with fail
        refine (WriteByte_any w.heap.size w.heap.size v _ _ _ hB (by rw [Lib.byteCells_length]; omega) (by have := hbr.size; omega)).mono ?_
        rintro e w3 ⟨rfl, v3, hB3, ha3, hf3, hb3⟩
        go_wp2
        go_roundw
        case rel => exact ⟨k + 1, acc ++ [x], v3, by omega, by go_num, by rw [Lib.byteCells_append]; exact hB3, hR'.step ha3 hf3, hbr.trans hb3, by rw [← HD.out, HP.out]; simp, by simp; omega⟩
        case measure => simp [intOf]; omega
    · have HD : Hid (acc = [34] ++ qbody l) := by
        have e : l.drop k = [] := List.drop_eq_nil_of_le (by omega)
        rw [e] at hacc
        show acc = _
        simpa [qbody] using hacc
      clear hacc
      go_wp2_with fail
      refine (WriteByte_any w.heap.size w.heap.size v _ 34 _ hB (by rw [Lib.byteCells_length]; omega) (by have := hbr.size; omega)).mono ?_
      rintro e w3 ⟨rfl, v3, hB3, ha3, hf3, hb3⟩
      go_wp2_with fail
      have hB4 : Bld 77 5 w.heap.size w.heap.size v3 (Lib.byteCells (acc ++ [34])) w3 := by rw [Lib.byteCells_append]; exact hB3
      refine (Tryz.Builder_String_any_k w.heap.size w.heap.size _ _ hB4.isF (by have := hbr.size; have := hb3.size; omega)).mono ?_
      rintro e w4 ⟨rfl, _, hb4, _⟩
      go_wp2
      go_ret
      rw [HD.out]
      exact ⟨rfl, (hbr.trans hb3).trans hb4⟩
end Go.Proofs.YtgiojkhmkeocfaaGreatDoor

/- Check of layer lines, walked at rows of texts; slices.ContainsFunc, walked at lines with signs. -/
set_option maxRecDepth 20000
namespace Go.Proofs.YtgiojkhmkeocfaaGreatDoor
open Ln Go.RowKit

set_option maxHeartbeats 1000000 in
theorem isLine_any (l : List UInt8) (last : Bool) (w : World) (hl : l.length ≤ 1099511627776) (r : Bool) (HR : Hid (lineB l last = r)) :
    Calls Tryz.prog 107 #[.string ⟨l.toArray⟩, .bool last] w fun e w' => e = .returned (.bool r) ∧ w = w' := by
  rcases Int.lt_or_le (Lib.indexByte l 10) 0 with hq | hq
  · obtain ⟨q1, q2⟩ := index_none hq
    have HE : Hid ((last && !l.isEmpty) = r) := (by show _ = _; rw [← HR.out]; exact (lineB_all q2 last).symm)
    clear hq q2 HR
    go_enter Tryz.func107, Tryz.ntmps107
    go_wp2_with fail
    refine (Tryz.strings_Index_one ⟨l.toArray⟩ 10 _).mono ?_
    rintro e w1 ⟨rfl, rfl⟩
    have hi2 : Lib.indexByte (⟨l.toArray⟩ : ByteArray).data.toList 10 = -1 := q1
    rw [hi2]
    cases last with
    | false =>
      go_wp2
      go_ret
      rw [← HE.out]
      exact ⟨rfl, rfl⟩
    | true =>
      cases l with
      | nil =>
        go_wp2
        go_ret
        rw [← HE.out]
        exact ⟨rfl, rfl⟩
      | cons c t =>
        go_wp2
        go_ret
        rw [← HE.out]
        exact ⟨rfl, rfl⟩
  · obtain ⟨a, b, he, hn, hi⟩ := index_some hq
    have HE : Hid (b.isEmpty = r) := (by
      show _ = _
      rw [← HR.out, he]
      exact (lineB_cut hn last).symm)
    have hlen : l.length = a.length + 1 + b.length := by rw [he]; simp; omega
    clear hn hq he HR
    go_enter Tryz.func107, Tryz.ntmps107
    go_wp2_with fail
    refine (Tryz.strings_Index_one ⟨l.toArray⟩ 10 _).mono ?_
    rintro e w1 ⟨rfl, rfl⟩
    have hi2 : Lib.indexByte (⟨l.toArray⟩ : ByteArray).data.toList 10 = a.length := hi
    rw [hi2]
    cases b with
    | nil =>
      have hb : ((a.length : Int) == (l.length : Int) - 1) = true := by simp at hlen; simp; omega
      clear hlen
      go_wp2
      go_ret
      rw [← HE.out]
      exact ⟨rfl, rfl⟩
    | cons c t =>
      have hb : ((a.length : Int) == (l.length : Int) - 1) = false := by simp at hlen; rw [beq_eq_false_iff_ne]; omega
      clear hlen
      go_wp2
      go_ret
      rw [← HE.out]
      exact ⟨rfl, rfl⟩

set_option maxHeartbeats 1000000 in
theorem hlCheck_f (v : Value) (ws : List (List UInt8)) (w : World) (hl : ws.length ≤ 1099511627776) (he : ∀ a ∈ ws, a.length ≤ 1099511627776) (hv : HS w v ws) (r : Bool) (HR : Hid (checkB ws = r)) (z : Int) (HZ : Hid (z = if r = true then 0 else 6)) :
    Calls Tryz.prog 62 #[v] w fun e w' => e = .returned (.int .i64 z) ∧ w = w' := by
  obtain ⟨ao, c, rfl⟩ := Holds.form hv
  have HL : Hid (∀ a ∈ ws, a.length ≤ 1099511627776) := he
  clear he
  go_enter Tryz.func62, Tryz.ntmps62
  go_wp2
  go_loopw [3, 4, 7] (fun _ _ i wr => ∃ k : Nat, k ≤ ws.length ∧ i = .int .i64 k ∧ wr = w ∧ Hid (checkB (ws.drop k) = r)) (fun _ _ i _ => ws.length - (intOf i).toNat)
  case atStart => exact ⟨0, Nat.zero_le _, rfl, rfl, HR⟩
  case round =>
    obtain ⟨k, hk, rfl, rfl, HI⟩ := hrel
    clear HR
    by_cases hlt : k < ws.length
    · obtain ⟨b, off, rfl, _, hc⟩ := HS.at hv (by omega)
      have d1 := hc k hlt
      have hxl := HL.out ws[k] (List.getElem_mem hlt)
      have i1 : 0 ≤ (k : Int) := by omega
      have i2 : (k : Int) < (ws.length : Int) := by omega
      have HM : (ws.drop (k + 1)).isEmpty = ((k : Int) == (ws.length : Int) - 1) := by
        rw [Bool.eq_iff_iff, List.isEmpty_iff, List.drop_eq_nil_iff, beq_iff_eq]; omega
      have HD : Hid ((lineB ws[k] (ws.drop (k + 1)).isEmpty && checkB (ws.drop (k + 1))) = r) := (by
        have h := HI.out
        rw [List.drop_eq_getElem_cons hlt] at h
        exact h)
      rw [HM] at HD
      generalize hq : ((k : Int) == (ws.length : Int) - 1) = q at *
      generalize ws[k] = x at *
      obtain ⟨r1, hr1⟩ : ∃ r1, lineB x q = r1 := ⟨_, rfl⟩
      have HR1 : Hid (lineB x q = r1) := hr1
      rw [hr1] at HD
      clear hr1 HI HM hc
      go_wp2_with fail
      refine (isLine_any x q _ hxl r1 HR1).mono ?_
      rintro e w1 ⟨rfl, rfl⟩
      cases r1 with
      | false =>
        have HZ2 : Hid (z = 6) := (by
          have h := HD.out
          rw [Bool.false_and] at h
          show _ = _
          rw [HZ.out, ← h]
          rfl)
        clear HZ
        go_wp2
        go_ret
        rw [HZ2.out]
        exact ⟨rfl, rfl⟩
      | true =>
        have HE : Hid (checkB (ws.drop (k + 1)) = r) := (by have h := HD.out; rw [Bool.true_and] at h; exact h)
        go_wp2
        go_roundw
        case rel => exact ⟨k + 1, by omega, by go_num, by trivial, HE⟩
        case measure => simp [intOf]; omega
    · have HZ2 : Hid (z = 0) := (by
        have h := HI.out
        rw [List.drop_of_length_le (by omega)] at h
        show _ = _
        rw [HZ.out, ← h]
        rfl)
      clear HZ HI
      have hend : decide ((k : Int) < (ws.length : Int)) = false := decide_eq_false (by omega)
      go_wp2
      go_ret
      rw [HZ2.out]
      exact ⟨rfl, rfl⟩

/-- slices.IndexFunc, slices.ContainsFunc: the function may lay blocks -/
theorem idx_any {l : List Mk} {p : Mk → Bool} {k : Nat} (hk : k < l.length) : (l.drop k).any p = (p l[k] || (l.drop (k + 1)).any p) := by
  rw [List.drop_eq_getElem_cons hk, List.any_cons]
set_option maxRecDepth 10000 in
set_option maxHeartbeats 2000000 in
theorem hIndexFunc_f (g : Nat) (l : List Mk) (p : Mk → Bool) (v : Value) (w : World) (hv : HMk w v l) (hl : l.length ≤ 1099511627776) (eg : ∀ args w, (callFunc g args).run Tryz.prog w = .ok (.enter g args) w)
    (hf : Hid (∀ m ∈ l, ∀ u : World, Calls Tryz.prog g (#[.agg #[.int .u8 m.sg, .string ⟨m.tx.toArray⟩]] ++ #[]) u fun e u' => e = .returned (.bool (p m)) ∧ Below u.heap.size u u')) (r : Bool) (HR : Hid (l.any p = r)) :
    Calls Tryz.prog 106 #[v, .func (.func g) #[] #[]] w fun e w' => ∃ z : Int, e = .returned (.int .i64 z) ∧ decide (0 ≤ z) = r ∧ Below w.heap.size w w' := by
  obtain ⟨lo, lc, rfl⟩ := HMk.form hv
  go_enter Tryz.func106, Tryz.ntmps106
  go_wp2
  go_loopw [5, 8] (fun _ i wr => ∃ k : Nat, k ≤ l.length ∧ i = .int .i64 k ∧ Below w.heap.size w wr ∧ Hid ((l.drop k).any p = r)) (fun _ i _ => l.length - (intOf i).toNat)
  case atStart => exact ⟨0, Nat.zero_le _, rfl, Below.refl _ _, HR⟩
  case round =>
    obtain ⟨k, hk, rfl, hB, HI⟩ := hrel
    clear HR
    by_cases hlt : k < l.length
    · obtain ⟨b, off, rfl, hb, _⟩ := HMk.at hv (by omega)
      obtain ⟨m, hm⟩ : ∃ m, l[k] = m := ⟨_, rfl⟩
      obtain ⟨c0, c1⟩ := Low.mk hB hv k hlt hm
      have hc := hf.out m (by rw [← hm]; exact List.getElem_mem hlt) wr
      have i1 : 0 ≤ (k : Int) := by omega
      have i2 : (k : Int) < (l.length : Int) := by omega
      have HI2 : Hid ((p m || (l.drop (k + 1)).any p) = r) := (by
        have h := HI.out
        rw [idx_any hlt, hm] at h
        exact h)
      obtain ⟨q, hq⟩ : ∃ q, p m = q := ⟨_, rfl⟩
      rw [hq] at hc HI2
      clear HI hm hq
      cases q with
      | true =>
        have HE : Hid (true = r) := (by have h := HI2.out; rw [Bool.true_or] at h; exact h)
        clear HI2
        go_wp2_with (go_at_fn g; refine hc.mono ?_; rintro e w' ⟨rfl, hB1⟩)
        go_ret
        exact ⟨_, rfl, by rw [← HE.out]; exact decide_eq_true (by omega), hB.trans (hB1.mono hB.size)⟩
      | false =>
        have HE : Hid ((l.drop (k + 1)).any p = r) := (by have h := HI2.out; rw [Bool.false_or] at h; exact h)
        clear HI2
        go_wp2_with (go_at_fn g; refine hc.mono ?_; rintro e w' ⟨rfl, hB1⟩)
        exact ⟨⟨k + 1, by omega, by go_num, hB.trans (hB1.mono hB.size), HE⟩, by simp [intOf]; omega⟩
    · have HE : Hid (false = r) := (by
        have h := HI.out
        rw [List.drop_of_length_le (by omega)] at h
        exact h)
      clear HI
      have hend : decide ((k : Int) < (l.length : Int)) = false := decide_eq_false (by omega)
      go_wp2
      go_ret
      exact ⟨_, rfl, HE.out, hB⟩
theorem hContains_f (g : Nat) (l : List Mk) (p : Mk → Bool) (v : Value) (w : World) (hv : HMk w v l) (hl : l.length ≤ 1099511627776) (eg : ∀ args w, (callFunc g args).run Tryz.prog w = .ok (.enter g args) w)
    (hf : Hid (∀ m ∈ l, ∀ u : World, Calls Tryz.prog g (#[.agg #[.int .u8 m.sg, .string ⟨m.tx.toArray⟩]] ++ #[]) u fun e u' => e = .returned (.bool (p m)) ∧ Below u.heap.size u u')) (r : Bool) (HR : Hid (l.any p = r)) :
    Calls Tryz.prog 60 #[v, .func (.func g) #[] #[]] w fun e w' => e = .returned (.bool r) ∧ Below w.heap.size w w' := by
  have HC := hIndexFunc_f g l p v w hv hl eg hf r HR
  obtain ⟨lo, lc, rfl⟩ := HMk.form hv
  go_enter Tryz.func60, Tryz.ntmps60
  go_wp2_with fail
  refine HC.mono ?_
  rintro e w1 ⟨z, rfl, hz, hB⟩
  go_wp2
  go_ret
  exact ⟨rfl, hB⟩
end Go.Proofs.YtgiojkhmkeocfaaGreatDoor

/- Two texts joined. -/
set_option maxRecDepth 20000
namespace Go.Proofs.YtgiojkhmkeocfaaGreatDoor

theorem ba_join (a b : List UInt8) : ((⟨a.toArray⟩ : ByteArray) ++ (⟨b.toArray⟩ : ByteArray)) = ⟨(a ++ b).toArray⟩ := by
  apply ByteArray.ext
  simp
end Go.Proofs.YtgiojkhmkeocfaaGreatDoor

/- The reference's text of a number, walked: the decimal digits, with a sign ahead of a negative one. -/
set_option maxRecDepth 20000
namespace Go.Proofs.YtgiojkhmkeocfaaGreatDoor
open Go.RowKit

end Go.Proofs.YtgiojkhmkeocfaaGreatDoor

/- The reference's small functions of the normal form's writing, walked: a range of lines, a line behind a sign. -/
set_option maxRecDepth 20000
namespace Go.Proofs.YtgiojkhmkeocfaaGreatDoor
open Go.RowKit
attribute [local go_sem] ByteArray.extract_mk no_at

end Go.Proofs.YtgiojkhmkeocfaaGreatDoor

/- The reference's change of the normal form, walked. -/
set_option maxRecDepth 20000
namespace Go.Proofs.YtgiojkhmkeocfaaGreatDoor
open Go.RowKit

/-- a change in a box, and all below it as it was -/
structure Cs (c : Ch) (b : Nat) (W w : World) : Prop where
  c0 : w.cell? ⟨b, 0, none⟩ = some (.int .i64 c.A)
  c1 : w.cell? ⟨b, 1, none⟩ = some (.int .i64 c.AN)
  c2 : w.cell? ⟨b, 2, none⟩ = some (.int .i64 c.B)
  c3 : w.cell? ⟨b, 3, none⟩ = some (.int .i64 c.BN)
  lt : b < w.heap.size
  low : Below W.heap.size W w
theorem Cs.keep {c : Ch} {b : Nat} {W w w' : World} (h : Cs c b W w) (hb : Below w.heap.size w w') : Cs c b W w' := by
  have hk : ∀ o, w'.cell? ⟨b, o, none⟩ = w.cell? ⟨b, o, none⟩ := fun o => by
    unfold World.cell?
    dsimp only
    rw [hb.block b h.lt]
  exact ⟨(hk 0).trans h.c0, (hk 1).trans h.c1, (hk 2).trans h.c2, (hk 3).trans h.c3, Nat.lt_of_lt_of_le h.lt hb.size, h.low.trans (hb.mono h.low.size)⟩
theorem cs_drew (c : Ch) (b : Nat) (W w : World) : Cs c b W w.drew ↔ Cs c b W w := ⟨fun h => ⟨h.c0, h.c1, h.c2, h.c3, h.lt, (h.low.trans ⟨rfl, rfl, rfl, Nat.le_refl _, fun _ _ => rfl⟩ : Below W.heap.size W w)⟩, fun h => ⟨h.c0, h.c1, h.c2, h.c3, h.lt, h.low.drew⟩⟩
attribute [local simp] cs_drew
theorem Cs.fresh (c : Ch) (w : World) : Cs c w.heap.size w (w.alloc (.cells #[.int .i64 c.A, .int .i64 c.AN, .int .i64 c.B, .int .i64 c.BN] 64)) := by
  have h := heap_alloc_new w (.cells #[.int .i64 c.A, .int .i64 c.AN, .int .i64 c.B, .int .i64 c.BN] 64)
  have hk : ∀ o, (w.alloc (.cells #[.int .i64 c.A, .int .i64 c.AN, .int .i64 c.B, .int .i64 c.BN] 64)).cell? ⟨w.heap.size, o, none⟩ = (#[Value.int .i64 c.A, .int .i64 c.AN, .int .i64 c.B, .int .i64 c.BN])[o]? := fun o => by
    unfold World.cell?
    dsimp only
    rw [h]
    rfl
  exact ⟨hk 0, hk 1, hk 2, hk 3, by rw [World.alloc]; simp, (Below.refl _ w).alloc (Nat.le_refl _) _⟩
end Go.Proofs.YtgiojkhmkeocfaaGreatDoor

/- The reference's Print of the normal form, walked. -/
set_option maxRecDepth 20000
namespace Go.Proofs.YtgiojkhmkeocfaaGreatDoor
open Go.RowKit

end Go.Proofs.YtgiojkhmkeocfaaGreatDoor

/- How long the context form of a patch is; plain mathematics. -/
set_option maxRecDepth 20000
namespace Go.Proofs.YtgiojkhmkeocfaaGreatDoor
open Ln

/-- the bytes of lines -/
def txS : List Mk → Nat
  | [] => 0
  | m :: l => m.tx.length + txS l
/-- the lines and bytes of hunks -/
def hsS : List Hk → Nat
  | [] => 0
  | h :: l => 200 + 62 * h.ls.length + 2 * txS h.ls + hsS l
end Go.Proofs.YtgiojkhmkeocfaaGreatDoor

/- The context form: a side's lines one by one, by what lies ahead of a place and behind it (the reference's way); plain mathematics. -/
set_option maxRecDepth 20000
namespace Go.Proofs.YtgiojkhmkeocfaaGreatDoor

end Go.Proofs.YtgiojkhmkeocfaaGreatDoor

/- The context form: the signs with which the code shows lines; plain mathematics. -/
set_option maxRecDepth 20000
namespace Go.Proofs.YtgiojkhmkeocfaaGreatDoor
open Ln

def chgM (l : List Mk) : List Mk := l.takeWhile fun m => m.sg != 32
def rstM (l : List Mk) : List Mk := l.dropWhile fun m => m.sg != 32
/- signs that are shown -/
theorem chg_rstM (l : List Mk) : chgM l ++ rstM l = l := List.takeWhile_append_dropWhile
end Go.Proofs.YtgiojkhmkeocfaaGreatDoor

/- slices.IndexFunc, slices.ContainsFunc for a function value that may hold a variable; the code's isKept, has, piece of layer 15, walked. -/
set_option maxRecDepth 20000
namespace Go.Proofs.YtgiojkhmkeocfaaGreatDoor
open Ln Go.RowKit

/-- where the first one is, or -1 -/
def idxI (p : Mk → Bool) : Nat → List Mk → Int
  | _, [] => -1
  | k, m :: l => if p m = true then (k : Int) else idxI p (k + 1) l
theorem idxI_any (p : Mk → Bool) (l : List Mk) : ∀ k, decide (0 ≤ idxI p k l) = l.any p := by
  induction l with
  | nil => intro k; rfl
  | cons m l ih =>
    intro k
    rw [List.any_cons]
    by_cases h : p m = true
    · have e : idxI p k (m :: l) = (k : Int) := if_pos h
      rw [e, h]
      simp
    · have e : idxI p k (m :: l) = idxI p (k + 1) l := if_neg h
      rw [e, ih, Bool.eq_false_iff.2 h]
      rfl
theorem chgM_ne {m : Mk} {l : List Mk} (h : m.sg ≠ 32) : chgM (m :: l) = m :: chgM l ∧ rstM (m :: l) = rstM l := by
  have h1 : (m.sg != 32) = true := by simp [h]
  constructor
  · simp only [chgM, List.takeWhile_cons, h1]; rfl
  · simp only [rstM, List.dropWhile_cons, h1]; rfl
theorem chgM_eq {m : Mk} {l : List Mk} (h : m.sg = 32) : chgM (m :: l) = [] ∧ rstM (m :: l) = m :: l := by
  have h1 : (m.sg != 32) = false := by simp [h]
  constructor
  · simp only [chgM, List.takeWhile_cons, h1]; rfl
  · simp only [rstM, List.dropWhile_cons, h1]; rfl
theorem idxI_chg (l : List Mk) : ∀ k, idxI (fun m => m.sg == 32) k l = if rstM l = [] then -1 else (k : Int) + (chgM l).length := by
  induction l with
  | nil => intro k; rfl
  | cons m l ih =>
    intro k
    by_cases h : m.sg = 32
    · have e : idxI (fun m => m.sg == 32) k (m :: l) = (k : Int) := if_pos (by simp [h])
      rw [e, (chgM_eq h).1, (chgM_eq h).2, if_neg (by simp)]
      simp
    · have e : idxI (fun m => m.sg == 32) k (m :: l) = idxI (fun m => m.sg == 32) (k + 1) l := if_neg (by simp [h])
      rw [e, ih, (chgM_ne h).1, (chgM_ne h).2]
      by_cases hq : rstM l = []
      · rw [if_pos hq, if_pos hq]
      · rw [if_neg hq, if_neg hq]
        simp only [List.length_cons]; omega
theorem idxI_drop {p : Mk → Bool} {l : List Mk} {k : Nat} (hk : k < l.length) : idxI p k (l.drop k) = if p l[k] = true then (k : Int) else idxI p (k + 1) (l.drop (k + 1)) := by
  rw [List.drop_eq_getElem_cons hk]
  rfl
set_option maxRecDepth 10000 in
set_option maxHeartbeats 2000000 in
theorem cIdx_f (g : Nat) (cap : Array Value) (l : List Mk) (p : Mk → Bool) (v : Value) (w : World) (hv : HMk w v l) (hl : l.length ≤ 1099511627776) (eg : ∀ args w, (callFunc g args).run Tryz.prog w = .ok (.enter g args) w)
    (hf : Hid (∀ m ∈ l, ∀ u : World, Below w.heap.size w u → Calls Tryz.prog g (#[.agg #[.int .u8 m.sg, .string ⟨m.tx.toArray⟩]] ++ cap) u fun e u' => e = .returned (.bool (p m)) ∧ Below u.heap.size u u')) (z : Int) (HR : Hid (idxI p 0 l = z)) :
    Calls Tryz.prog 106 #[v, .func (.func g) #[] cap] w fun e w' => e = .returned (.int .i64 z) ∧ Below w.heap.size w w' := by
  obtain ⟨lo, lc, rfl⟩ := HMk.form hv
  go_enter Tryz.func106, Tryz.ntmps106
  go_wp2
  go_loopw [5, 8] (fun _ i wr => ∃ k : Nat, k ≤ l.length ∧ i = .int .i64 k ∧ Below w.heap.size w wr ∧ Hid (idxI p k (l.drop k) = z)) (fun _ i _ => l.length - (intOf i).toNat)
  case atStart => exact ⟨0, Nat.zero_le _, rfl, Below.refl _ _, HR⟩
  case round =>
    obtain ⟨k, hk, rfl, hB, HI⟩ := hrel
    clear HR
    by_cases hlt : k < l.length
    · obtain ⟨b, off, rfl, hb, _⟩ := HMk.at hv (by omega)
      obtain ⟨m, hm⟩ : ∃ m, l[k] = m := ⟨_, rfl⟩
      obtain ⟨c0, c1⟩ := Low.mk hB hv k hlt hm
      have hc := hf.out m (by rw [← hm]; exact List.getElem_mem hlt) wr hB
      have i1 : 0 ≤ (k : Int) := by omega
      have i2 : (k : Int) < (l.length : Int) := by omega
      have HI2 : Hid ((if p m = true then (k : Int) else idxI p (k + 1) (l.drop (k + 1))) = z) := (by
        have h := HI.out
        rw [idxI_drop hlt, hm] at h
        exact h)
      obtain ⟨q, hq⟩ : ∃ q, p m = q := ⟨_, rfl⟩
      rw [hq] at hc HI2
      clear HI hm hq
      cases q with
      | true =>
        have HE : Hid ((k : Int) = z) := (by have h := HI2.out; rw [if_pos rfl] at h; exact h)
        clear HI2
        go_wp2_with (go_at_fn g; refine hc.mono ?_; rintro e w' ⟨rfl, hB1⟩)
        go_ret
        exact ⟨by rw [HE.out]; rfl, hB.trans (hB1.mono hB.size)⟩
      | false =>
        have HE : Hid (idxI p (k + 1) (l.drop (k + 1)) = z) := (by have h := HI2.out; rw [if_neg (by decide)] at h; exact h)
        clear HI2
        go_wp2_with (go_at_fn g; refine hc.mono ?_; rintro e w' ⟨rfl, hB1⟩)
        exact ⟨⟨k + 1, by omega, by go_num, hB.trans (hB1.mono hB.size), HE⟩, by simp [intOf]; omega⟩
    · have HE : Hid (-1 = z) := (by
        have h := HI.out
        rw [List.drop_of_length_le (by omega)] at h
        exact h)
      clear HI
      have hend : decide ((k : Int) < (l.length : Int)) = false := decide_eq_false (by omega)
      go_wp2
      go_ret
      exact ⟨by rw [HE.out]; rfl, hB⟩
set_option maxHeartbeats 1000000 in
theorem cContains_f (g : Nat) (cap : Array Value) (l : List Mk) (p : Mk → Bool) (v : Value) (w : World) (hv : HMk w v l) (hl : l.length ≤ 1099511627776) (eg : ∀ args w, (callFunc g args).run Tryz.prog w = .ok (.enter g args) w)
    (hf : Hid (∀ m ∈ l, ∀ u : World, Below w.heap.size w u → Calls Tryz.prog g (#[.agg #[.int .u8 m.sg, .string ⟨m.tx.toArray⟩]] ++ cap) u fun e u' => e = .returned (.bool (p m)) ∧ Below u.heap.size u u')) (r : Bool) (HR : Hid (l.any p = r)) :
    Calls Tryz.prog 60 #[v, .func (.func g) #[] cap] w fun e w' => e = .returned (.bool r) ∧ Below w.heap.size w w' := by
  obtain ⟨z, hz⟩ : ∃ z, idxI p 0 l = z := ⟨_, rfl⟩
  have HC := cIdx_f g cap l p v w hv hl eg hf z hz
  have HZ : Hid (decide (0 ≤ z) = r) := (by show _ = _; rw [← hz, idxI_any]; exact HR.out)
  clear hz HR
  obtain ⟨lo, lc, rfl⟩ := HMk.form hv
  go_enter Tryz.func60, Tryz.ntmps60
  go_wp2_with fail
  refine HC.mono ?_
  rintro e w1 ⟨rfl, hB⟩
  go_wp2
  go_ret
  exact ⟨by rw [HZ.out]; rfl, hB⟩
set_option maxHeartbeats 1000000 in
theorem cisKept_f (m : Mk) (w : World) : Calls Tryz.prog 212 #[.agg #[.int .u8 m.sg, .string ⟨m.tx.toArray⟩]] w fun e w' => e = .returned (.bool (m.sg == 32)) ∧ Below w.heap.size w w' := by
  have hBl : Below w.heap.size w (w.alloc (.cells #[.int .u8 m.sg, .string ⟨m.tx.toArray⟩] 103)) := (Below.refl _ w).alloc (Nat.le_refl _) _
  go_enter Tryz.func212, Tryz.ntmps212
  go_wp2
  go_ret
  exact ⟨rfl, hBl⟩
/-- the lines at the front that are not kept, as a slice of the same row -/
theorem chg_take (l : List Mk) : l.take (chgM l).length = chgM l := by
  have h := chg_rstM l
  have h2 : (chgM l ++ rstM l).take (chgM l).length = chgM l := List.take_left
  rw [h] at h2
  exact h2
theorem chg_le (l : List Mk) : (chgM l).length ≤ l.length := by
  have h := congrArg List.length (chg_rstM l)
  rw [List.length_append] at h
  omega
theorem rst_nil {l : List Mk} (h : rstM l = []) : chgM l = l := by
  have h1 := chg_rstM l
  rw [h, List.append_nil] at h1
  exact h1
/-- l[:k], l[k:] of a slice of lines with signs -/
def mslF (ao : Option Addr) (cap k : Nat) : Option Addr := if cap = k then ao else ao.map (·.add (k * 2))
theorem run_mF (ao : Option Addr) (n cap k : Nat) (hk : k ≤ n) (_ : n ≤ cap) (u : World) : (Instr.slice 57 (.slice ao n cap) (some (.int .i64 (k : Int))) none none).run Tryz.prog u = .ok (.slice (mslF ao cap k) (n - k) (cap - k)) u := by
  rw [run_slice_l (P := Tryz.prog) u 57 ao n cap (by kernel_rfl) .i64 k (by omega) (by omega)]
  have : (sizeOf (Tryz.prog.elem 57)).run Tryz.prog u = .ok 2 u := by kernel_rfl
  rw [this]
  simp [Result.andThen, sliced, mslF]
theorem maddr_zero (ad : Addr) : ad.add 0 = ad := by unfold Addr.add; split <;> simp_all
theorem run_mT (ao : Option Addr) (n cap k : Nat) (hk : k ≤ n) (hn : n ≤ cap) (u : World) : (Instr.slice 57 (.slice ao n cap) none (some (.int .i64 (k : Int))) none).run Tryz.prog u = .ok (.slice ao k cap) u := by
  rw [run_slice_h (P := Tryz.prog) u 57 ao n cap (by kernel_rfl) .i64 k (by omega) (by omega)]
  have : (sizeOf (Tryz.prog.elem 57)).run Tryz.prog u = .ok 2 u := by kernel_rfl
  rw [this]
  cases ao with
  | none => simp [Result.andThen, sliced]
  | some ad => simp [Result.andThen, sliced, maddr_zero]
theorem mhold_cap {w : World} {ao : Option Addr} {n c : Nat} {xs : List Value} (h : Holds w (.slice ao n c) n xs) : n ≤ c := by
  rcases h with ⟨h, h0, _⟩ | ⟨ad, c', h, h3, _⟩
  · omega
  · cases h; exact h3
theorem mkcells_take (l : List Mk) (k : Nat) : (mkcells l).take (k * 2) = mkcells (l.take k) := by
  induction k generalizing l with
  | zero => simp [mkcells]
  | succ k ih =>
    cases l with
    | nil => simp [mkcells]
    | cons m l =>
      have e : (k + 1) * 2 = k * 2 + 1 + 1 := by omega
      have h1 : mkcells (m :: l) = .int .u8 m.sg :: .string ⟨m.tx.toArray⟩ :: mkcells l := rfl
      have h2 : mkcells ((m :: l).take (k + 1)) = .int .u8 m.sg :: .string ⟨m.tx.toArray⟩ :: mkcells (l.take k) := rfl
      rw [e, h1, h2, List.take_succ_cons, List.take_succ_cons, ih]
theorem mkcells_drop (l : List Mk) (k : Nat) : (mkcells l).drop (k * 2) = mkcells (l.drop k) := by
  induction k generalizing l with
  | zero => simp
  | succ k ih =>
    cases l with
    | nil => simp [mkcells]
    | cons m l =>
      have e : (k + 1) * 2 = k * 2 + 1 + 1 := by omega
      have h1 : mkcells (m :: l) = .int .u8 m.sg :: .string ⟨m.tx.toArray⟩ :: mkcells l := rfl
      rw [e, h1, List.drop_succ_cons, List.drop_succ_cons, ih]
      rfl
theorem mk_to {w : World} {ao : Option Addr} {c : Nat} {l : List Mk} (h : HMk w (.slice ao l.length c) l) (k : Nat) (hk : k ≤ l.length) : HMk w (.slice ao k c) (l.take k) := by
  have hlt : (l.take k).length = k := by rw [List.length_take]; omega
  unfold HMk at h ⊢
  rw [hlt]
  rcases h with ⟨h, h0, h4⟩ | ⟨ad, c', h, h3, hc⟩
  · have hl0 : l = [] := List.eq_nil_of_length_eq_zero h0
    subst hl0
    cases h
    have hk0 : k = 0 := by simpa using hk
    subst hk0
    exact .inl ⟨by simp, rfl, by simp [mkcells]⟩
  · cases h
    refine .inr ⟨ad, c, rfl, by omega, fun j v hj => hc j v ?_⟩
    rw [← mkcells_take] at hj
    by_cases hjk : j < k * 2
    · rw [List.getElem?_take_of_lt hjk] at hj
      exact hj
    · rw [List.getElem?_eq_none (by simp; omega)] at hj
      cases hj
theorem mk_from {w : World} {ao : Option Addr} {c : Nat} {l : List Mk} (h : HMk w (.slice ao l.length c) l) (k : Nat) (hk : k ≤ l.length) : HMk w (.slice (mslF ao c k) (l.length - k) (c - k)) (l.drop k) := by
  have hlt : (l.drop k).length = l.length - k := by rw [List.length_drop]
  have hnc := mhold_cap h
  unfold HMk at h ⊢
  rw [hlt]
  rcases h with ⟨h, h0, h4⟩ | ⟨ad, c', h, h3, hc⟩
  · have hl0 : l = [] := List.eq_nil_of_length_eq_zero h0
    subst hl0
    cases h
    have hk0 : k = 0 := by simpa using hk
    subst hk0
    exact .inl ⟨by simp [mslF], rfl, by simp [mkcells]⟩
  · cases h
    refine .inr ⟨if c = k then ad else ad.add (k * 2), c - k, by unfold mslF; split <;> simp, by omega, fun j v hj => ?_⟩
    rw [← mkcells_drop, List.getElem?_drop] at hj
    have hlt2 := (List.getElem?_eq_some_iff.1 hj).1
    rw [mkcells_length] at hlt2
    rw [if_neg (by omega)]
    have h0 := hc 0 _ (List.getElem?_eq_getElem (by rw [mkcells_length]; omega))
    obtain ⟨b, off, rfl⟩ := addr_of h0
    have := hc _ _ hj
    rw [add_none] at this
    rw [add_none, add_none, Nat.add_assoc]
    exact this
set_option maxHeartbeats 1000000 in
theorem cpiece_f (l : List Mk) (ao : Option Addr) (c : Nat) (w : World) (hv : HMk w (.slice ao l.length c) l) (hl : l.length ≤ 1099511627776) (n : Nat) (HN : Hid ((chgM l).length = n)) :
    Calls Tryz.prog 164 #[.slice ao l.length c] w fun e w' => e = .returned (.slice ao n c) ∧ Below w.heap.size w w' := by
  have hnc := mhold_cap hv
  have hle := chg_le l
  rw [HN.out] at hle
  have hc := fun z HZ => cIdx_f 212 #[] l (fun m => m.sg == 32) (.slice ao l.length c) w hv hl (enters_of Tryz.func212 (by kernel_rfl) rfl) (fun m _ u _ => cisKept_f m u) z HZ
  by_cases hr : rstM l = []
  · have HE : Hid (l.length = n) := (by show _ = _; rw [← HN.out, rst_nil hr])
    have hc1 := hc (-1) (by show _ = _; rw [idxI_chg, if_pos hr])
    clear HN hr hc hv
    go_enter Tryz.func164, Tryz.ntmps164
    go_wp2_with fail
    refine hc1.mono ?_
    rintro e w1 ⟨rfl, hB⟩
    go_wp2
    go_ret
    exact ⟨by rw [HE.out]; rfl, hB⟩
  · have hc1 := hc (n : Int) (by show _ = _; rw [idxI_chg, if_neg hr, HN.out]; simp)
    have hs := run_mT ao l.length c n hle hnc
    have i1 : (0 : Int) ≤ (n : Int) := by omega
    have i2 : (n : Int) ≤ (l.length : Int) := by omega
    have i3 : (n : Int) ≤ (c : Int) := by omega
    clear HN hr hc hv
    go_enter Tryz.func164, Tryz.ntmps164
    go_wp2_with fail
    refine hc1.mono ?_
    rintro e w1 ⟨rfl, hB⟩
    go_wp2
    go_ret
    exact ⟨rfl, hB⟩
end Go.Proofs.YtgiojkhmkeocfaaGreatDoor
