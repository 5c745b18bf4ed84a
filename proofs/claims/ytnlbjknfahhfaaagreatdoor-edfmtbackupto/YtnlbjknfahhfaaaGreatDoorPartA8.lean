/-
  Texts that belong together, joined: NoM3, NoB, EfMath, EfM2, NoJn, NoTx, NoRf, NoCg, NoPr, NoLen, NoWs, NcW, NcL, EfCw.
-/
import Derived.Test.YtnlbjknfahhfaaaGreatDoorPartA7
import Derived.Test.YtnlbjknfahhfaaaGreatDoorPartA4
import Derived.Test.YtnlbjknfahhfaaaGreatDoorPartA2
import Derived.Lib.ItoaNum
import Derived.Laws.IdiomStrings
import Derived.Deep.RegionHeld3
import Derived.Deep.CutBlock
import Derived.Deep.DeepCutAuto
import Derived.Shelf.Strings.BuilderK
import Derived.Test.YtnlbjknfahhfaaaGreatDoorProg
import Derived.Lib.AppendIntMem
import Derived.Lib.FrozenHead2

/- The normal form of an edit script: read again it is the hunks without context; a part of it is never read as the whole; plain mathematics. -/
set_option maxRecDepth 20000
namespace Go.Proofs.YtnlbjknfahhfaaaGreatDoor
open Ln

theorem rows_of {a : List (List UInt8)} (h : checkB a = true) : Rows a := by
  induction a with
  | nil => trivial
  | cons s t ih =>
    simp only [checkB, Bool.and_eq_true] at h
    have h1 := h.1
    rw [lineB_eq] at h1
    simp only [Bool.and_eq_true, Bool.or_eq_true] at h1
    refine ⟨h1.1, fun hne => ?_, ih h.2⟩
    rcases h1.2 with h2 | h2
    · cases t with
      | nil => exact absurd rfl hne
      | cons => cases h2
    · exact h2
theorem rows_drop {a : List (List UInt8)} (n : Nat) (h : Rows a) : Rows (a.drop n) := by
  induction n generalizing a with
  | zero => exact h
  | succ n ih =>
    cases a with
    | nil => trivial
    | cons s t => exact ih h.2.2
theorem rows_take {a : List (List UInt8)} (n : Nat) (h : Rows a) : Rows (a.take n) := by
  induction n generalizing a with
  | zero => trivial
  | succ n ih =>
    cases a with
    | nil => trivial
    | cons s t =>
      refine ⟨h.1, fun hne => h.2.1 fun e => ?_, ih h.2.2⟩
      subst e
      simp at hne
theorem rows_cut {a : List (List UInt8)} (h : checkB a = true) (p n : Int) : Rows (cut a p n) := rows_take _ (rows_drop _ (rows_of h))
theorem rows_lin {a : List (List UInt8)} (h : Rows a) : ∀ x ∈ a, linB x = true := by
  induction a with
  | nil => intro x hx; cases hx
  | cons s t ih =>
    intro x hx
    rcases List.mem_cons.1 hx with rfl | hx
    · exact h.1
    · exact ih h.2.2 x hx
theorem npk_mks {no sg : Int} (t : List (List UInt8)) : pkL no (mks sg t) = if sg ≠ no ∧ okS sg = true then t else [] := by
  induction t with
  | nil => simp [mks, pkL]
  | cons s t ih =>
    have e : mks sg (s :: t) = ⟨sg, s⟩ :: mks sg t := rfl
    rw [e, pkL, ih]
    split <;> rfl
/-- the hunk of one change without context -/
theorem one_zero {a b : List (List UInt8)} {c : Ch} (hn : numB c = true) (hA : c.A + c.AN ≤ a.length) (hB : c.B + c.BN ≤ b.length) : oneH a b 0 [c] = ⟨noA c.A c.AN, c.AN, noA c.B c.BN, c.BN, mks 45 (cut a c.A c.AN) ++ mks 43 (cut b c.B c.BN)⟩ := by
  have h := (numB_iff c).1 hn
  have e : bodyH a b (min (a.length : Int) (c.A + c.AN + 0)) (c.A - min 0 c.A) [c] = mks 45 (cut a c.A c.AN) ++ mks 43 (cut b c.B c.BN) := by
    rw [show min (a.length : Int) (c.A + c.AN + 0) = c.A + c.AN by omega, show c.A - min 0 c.A = c.A by omega]
    simp only [bodyH]
    rw [show c.A - c.A = (0 : Int) by omega, show c.A + c.AN - (c.A + c.AN) = (0 : Int) by omega, cut_zero, cut_zero]
    simp [mks]
  have l1 : ((cut a c.A c.AN).length : Int) = c.AN := hcut_length (by omega) (by omega) hA
  have l2 : ((cut b c.B c.BN).length : Int) = c.BN := hcut_length (by omega) (by omega) hB
  have p1 : pkL 43 (mks 45 (cut a c.A c.AN) ++ mks 43 (cut b c.B c.BN)) = cut a c.A c.AN := by
    rw [pkL_append, npk_mks, npk_mks, if_pos (by decide), if_neg (by decide), List.append_nil]
  have p2 : pkL 45 (mks 45 (cut a c.A c.AN) ++ mks 43 (cut b c.B c.BN)) = cut b c.B c.BN := by
    rw [pkL_append, npk_mks, npk_mks, if_neg (by decide), if_pos (by decide), List.nil_append]
  show cntH (c.A - min 0 c.A) (c.B - min 0 c.A) (bodyH a b (min (a.length : Int) (c.A + c.AN + 0)) (c.A - min 0 c.A) [c]) = _
  rw [e]
  unfold cntH noA
  rw [p1, p2, l1, l2, show c.A - min 0 c.A = c.A by omega, show c.B - min 0 c.A = c.B by omega]
  have q1 : (0 < (cut a c.A c.AN).length) = (0 < c.AN) := propext ⟨fun q => by omega, fun q => by omega⟩
  have q2 : (0 < (cut b c.B c.BN).length) = (0 < c.BN) := propext ⟨fun q => by omega, fun q => by omega⟩
  simp only [q1, q2]
theorem right_mem {fl : Bool} {p q n m : Int} {l : List Ch} (h : Right fl p q n m l) : ∀ c ∈ l, numB c = true ∧ c.A + c.AN ≤ n ∧ c.B + c.BN ≤ m := by
  induction l generalizing fl p q with
  | nil => intro c hc; cases hc
  | cons x l ih =>
    intro c hc
    rcases List.mem_cons.1 hc with rfl | hc
    · exact ⟨h.1.1, h.2.le.1, h.2.le.2.1⟩
    · exact ih h.2 c hc
theorem mk_zero {l : List Ch} {a b : List (List UInt8)} (hs : Script l a.length b.length) : mkR l a b 0 = l.map fun c => oneH a b 0 [c] := by
  rw [(mkR_eq hs (by omega)).1, grp_zero l _ _ _ _ _ hs.2.2]
  simp
theorem pk_prt {l : List Ch} {a b : List (List UInt8)} (h : ∀ c ∈ l, numB c = true) : pkM (prtL l a b) = false := by
  cases l with
  | nil => rfl
  | cons c l =>
    obtain ⟨_, y, t, e, hy⟩ := cmd_bytes (h c (by simp))
    unfold prtL
    rw [List.flatMap_cons, chgL, e]
    simp only [List.cons_append, pkM, markT, List.isPrefixOf]
    have : ((92 : UInt8) == y) = false := by rw [beq_eq_false_iff_ne]; exact fun q => hy q.symm
    rw [this]
    rfl
/-- what was written is read again -/
theorem hks_back {a b : List (List UInt8)} (ha : checkB a = true) (hb : checkB b = true) (hal : a.length ≤ 2147483647) (hbl : b.length ≤ 2147483647) (l : List Ch) : ∀ (f k p : Nat), (∀ c ∈ l, numB c = true ∧ c.A + c.AN ≤ a.length ∧ c.B + c.BN ≤ b.length) → k + l.length ≤ 4096 → (prtL l a b).length ≤ f → hksP f k p (prtL l a b) = .ok (l.map fun c => oneH a b 0 [c]) := by
  induction l with
  | nil =>
    intro f k p _ _ _
    cases f <;> rfl
  | cons c l ih =>
    intro f k p h hk hf
    have hc := h c (by simp)
    have hn := (numB_iff c).1 hc.1
    have e : prtL (c :: l) a b = chgL a b c ++ prtL l a b := rfl
    rw [e] at hf ⊢
    have l1 : ((cut a c.A c.AN).length : Int) = c.AN := hcut_length (by omega) (by omega) hc.2.1
    have l2 : ((cut b c.B c.BN).length : Int) = c.BN := hcut_length (by omega) (by omega) hc.2.2
    obtain ⟨p', hh⟩ := hk_back (k := k) (p := p) (rest := prtL l a b) hc.1 (by omega) (by omega) (by omega) (by omega) (rows_cut ha c.A c.AN) (rows_cut hb c.B c.BN) (by simp at hk; omega) (pk_prt fun x hx => (h x (by simp [hx])).1)
    have hlen : 1 ≤ (chgL a b c).length := by simp [chgL]
    rw [List.length_append] at hf
    cases f with
    | zero => omega
    | succ f =>
      have hi := ih f (k + 1) p' (fun x hx => h x (by simp [hx])) (by simp at hk; omega) (by omega)
      simp only [hksP]
      rw [if_neg (by simp [chgL]), hh]
      simp only [hi]
      simp only [List.map_cons]
      rw [one_zero hc.1 hc.2.1 hc.2.2]
/-- all lines that are written have their line feed, at the end alone -/
def Fed (ls : List (List UInt8)) : Prop := ∀ s ∈ ls, ∃ t, s = t ++ [10] ∧ ∀ c ∈ t, c ≠ 10
theorem fed_check {ls : List (List UInt8)} (h : Fed ls) : checkB ls = true := by
  induction ls with
  | nil => rfl
  | cons s r ih =>
    obtain ⟨t, e, ht⟩ := h s (by simp)
    simp only [checkB, Bool.and_eq_true]
    refine ⟨?_, ih fun x hx => h x (by simp [hx])⟩
    rw [e]
    exact lineB_cut ht _
theorem fed_line {ah x : List UInt8} (ha : ∀ c ∈ ah, c ≠ 10) (hx : linB x = true) : Fed (lnL ah x) := by
  obtain ⟨h0, h1⟩ := lin_no hx
  unfold lnL
  split
  · rename_i hf
    intro s hs
    rw [List.mem_singleton.1 hs]
    refine ⟨ah ++ x.dropLast, ?_, ?_⟩
    · rw [List.append_assoc, ← fd_form hf]
    · intro c hc
      rcases List.mem_append.1 hc with hc | hc
      · exact ha c hc
      · exact h1 c hc
  · rename_i hf
    intro s hs
    rcases List.mem_cons.1 hs with rfl | hs
    · refine ⟨ah ++ x, rfl, ?_⟩
      intro c hc
      rcases List.mem_append.1 hc with hc | hc
      · exact ha c hc
      · intro e
        subst e
        rcases List.eq_nil_or_concat x with rfl | ⟨q, y, rfl⟩
        · cases hc
        · rw [List.concat_eq_append] at hc hf h1
          rcases List.mem_append.1 hc with hc | hc
          · exact h1 10 (by simpa using hc) rfl
          · have : y = 10 := (List.mem_singleton.1 hc).symm
            subst this
            exact hf (fd_snoc q)
    · rw [List.mem_singleton.1 hs]
      refine ⟨markT.dropLast, rfl, ?_⟩
      decide
theorem fed_prt {a b : List (List UInt8)} (ha : checkB a = true) (hb : checkB b = true) {l : List Ch} (h : ∀ c ∈ l, numB c = true) : Fed (prtL l a b) := by
  intro s hs
  obtain ⟨c, hc, hs⟩ := List.mem_flatMap.1 hs
  unfold chgL at hs
  rcases List.mem_cons.1 hs with rfl | hs
  · exact ⟨cmdT c, rfl, (cmd_bytes (h c hc)).1⟩
  · rcases List.mem_append.1 hs with hs | hs
    · obtain ⟨x, hx, hs⟩ := List.mem_flatMap.1 hs
      exact fed_line (by decide) (rows_lin (rows_cut ha c.A c.AN) x hx) s hs
    · rcases List.mem_append.1 hs with hs | hs
      · unfold sepL at hs
        split at hs
        · rw [List.mem_singleton.1 hs]
          exact ⟨[45, 45, 45], rfl, by decide⟩
        · cases hs
      · obtain ⟨x, hx, hs⟩ := List.mem_flatMap.1 hs
        exact fed_line (by decide) (rows_lin (rows_cut hb c.B c.BN) x hx) s hs
theorem split_prt {a b : List (List UInt8)} (ha : checkB a = true) (hb : checkB b = true) {l : List Ch} (h : ∀ c ∈ l, numB c = true) : splitL (prtT l a b) = prtL l a b := right_split _ (fed_check (fed_prt ha hb h))
/-- 12.3: what is written of right lines is read as the hunks without context -/
theorem normal_back {l : List Ch} {a b : List (List UInt8)} (hs : Script l a.length b.length) (ha : checkB a = true) (hb : checkB b = true) (hal : a.length ≤ 1000000) (hbl : b.length ≤ 1000000) (hl : l.length ≤ 4096) : prsT (prtT l a b) = if 1048576 < (prtT l a b).length then .error (0, 9) else .ok (mkR l a b 0) := by
  have hm := right_mem hs.2.2
  unfold prsT
  rw [split_prt ha hb fun c hc => (hm c hc).1, hks_back ha hb (by omega) (by omega) l _ 0 0 hm (by omega) (Nat.le_refl _), mk_zero hs]
/-- what was read had its line feeds -/
def Alf (c : List (List UInt8)) : Prop := ∀ s ∈ c, fdB s = true
theorem alf_app {x y : List (List UInt8)} (hx : Alf x) (hy : Alf y) : Alf (x ++ y) := fun s hs => (List.mem_append.1 hs).elim (hx s) (hy s)
theorem mark_fed {s : List UInt8} (hp : ∀ c ∈ s.dropLast, c ≠ 10) (h : markT.isPrefixOf s = true) : fdB s = true := by
  obtain ⟨t, rfl⟩ := List.isPrefixOf_iff_prefix.1 h
  cases t with
  | nil => rfl
  | cons x t =>
    exfalso
    refine hp 10 ?_ rfl
    rw [List.dropLast_append_of_ne_nil (by simp)]
    exact List.mem_append_left _ (by decide)
theorem nxt_fed {p : Nat} {ls r : List (List UInt8)} {s : List UInt8} (h : nxt p ls = .ok (s, r)) : ∃ c, ls = c ++ r ∧ Alf c := by
  refine ⟨[s ++ [10]], nxt_ok h, ?_⟩
  intro x hx
  rw [List.mem_singleton.1 hx]
  exact fd_snoc s
theorem mkd_fed {sg : List UInt8} {last : Bool} {p p1 : Nat} {ls r : List (List UInt8)} {t : List UInt8} (hP : Plain ls) (h : mkd sg last p ls = .ok (t, p1, r)) : ∃ c, ls = c ++ r ∧ Alf c := by
  unfold mkd at h
  split at h
  · cases h
  · rename_i s r0 hn
    obtain ⟨c, e, hc⟩ := nxt_fed hn
    split at h
    · split at h
      · rename_i hl
        split at h
        · cases h
        · cases h
          simp only [Bool.and_eq_true] at hl
          cases r0 with
          | nil => simp [pkM] at hl
          | cons y r0 =>
            refine ⟨c ++ [y], by rw [e]; simp, alf_app hc ?_⟩
            intro x hx
            rw [List.mem_singleton.1 hx]
            exact mark_fed (hP y (by rw [e]; simp)) hl.2
      · cases h
        exact ⟨c, e, hc⟩
    · cases h
theorem rdN_fed {sg : List UInt8} {S : Int} (n : Nat) : ∀ {p p1 : Nat} {ls r : List (List UInt8)} {l : List Mk}, Plain ls → rdN sg S n p ls = .ok (l, p1, r) → ∃ c, ls = c ++ r ∧ Alf c := by
  induction n with
  | zero =>
    intro p p1 ls r l hP h
    simp only [rdN] at h
    cases h
    exact ⟨[], rfl, fun s hs => by cases hs⟩
  | succ n ih =>
    intro p p1 ls r l hP h
    simp only [rdN] at h
    split at h
    · cases h
    · rename_i t q1 r1 hm
      obtain ⟨c1, e1, hc1⟩ := mkd_fed hP hm
      have hP1 := (mkd_ok hP hm).2.2.1
      split at h
      · cases h
      · rename_i l' q2 r2 hr
        obtain ⟨c2, e2, hc2⟩ := ih hP1 hr
        cases h
        exact ⟨c1 ++ c2, by rw [e1, e2]; simp, alf_app hc1 hc2⟩
theorem hkP_fed {k p p1 : Nat} {ls r : List (List UInt8)} {h : Hk} (hP : Plain ls) (hh : hkP k p ls = .ok (h, p1, r)) : ∃ c, ls = c ++ r ∧ Alf c := by
  unfold hkP at hh
  split at hh
  · cases hh
  · rename_i s r0 hn
    obtain ⟨c0, e0, hc0⟩ := nxt_fed hn
    have hP0 := (nxt_len hP hn).2
    split at hh
    · cases hh
    · rename_i A AN B BN hc
      split at hh
      · cases hh
      · split at hh
        · cases hh
        · rename_i l1 q1 r1 h1
          obtain ⟨c1, e1, hc1⟩ := rdN_fed _ hP0 h1
          have hP1 := (rdN_ok _ hP0 h1).2.2.2.1
          split at hh
          · cases hh
          · rename_i q2 r2 h2
            have hs : (∃ c, r1 = c ++ r2 ∧ Alf c) ∧ Plain r2 := (by
              split at h2
              · unfold sepP at h2
                split at h2
                · cases h2
                · rename_i s3 r3 hn3
                  split at h2
                  · cases h2
                    exact ⟨nxt_fed hn3, (nxt_len hP1 hn3).2⟩
                  · cases h2
              · cases h2
                exact ⟨⟨[], rfl, fun s hs => by cases hs⟩, hP1⟩)
            obtain ⟨⟨c2, e2, hc2⟩, hP2⟩ := hs
            split at hh
            · cases hh
            · rename_i l2 q3 r3 h3
              obtain ⟨c3, e3, hc3⟩ := rdN_fed _ hP2 h3
              cases hh
              exact ⟨c0 ++ (c1 ++ (c2 ++ c3)), by rw [e0, e1, e2, e3]; simp, alf_app hc0 (alf_app hc1 (alf_app hc2 hc3))⟩
theorem hksP_fed (f : Nat) : ∀ {k p : Nat} {ls : List (List UInt8)} {l : List Hk}, Plain ls → ls.length ≤ f → hksP f k p ls = .ok l → Alf ls := by
  induction f with
  | zero =>
    intro k p ls l hP hf h
    have : ls = [] := List.eq_nil_of_length_eq_zero (by omega)
    subst this
    intro s hs
    cases hs
  | succ f ih =>
    intro k p ls l hP hf h
    simp only [hksP] at h
    split at h
    · rename_i he
      subst he
      intro s hs
      cases hs
    · split at h
      · cases h
      · rename_i hk q1 r1 h1
        obtain ⟨a1, a2, a3⟩ := hkP_ok hP h1
        obtain ⟨c, e, hc⟩ := hkP_fed hP h1
        have hpos : 0 < hkC1 hk := by unfold hkC1; omega
        split at h
        · cases h
        · rename_i l' h2
          have := ih a3 (by omega) h2
          rw [e]
          exact alf_app hc this
/-- what is read ends with a line feed -/
theorem prs_feed {t : List UInt8} {l : List Hk} (h : prsT t = .ok l) : t = [] ∨ fdB t = true := by
  unfold prsT at h
  split at h
  · cases h
  · have hf := hksP_fed _ (split_plain t) (Nat.le_refl _) h
    have hj := split_join t
    cases hq : splitL t with
    | nil => left; exact split_nil hq
    | cons x r =>
      right
      rw [hq] at hj hf
      have hl : ∀ (x : List UInt8) (r : List (List UInt8)), Alf (x :: r) → fdB (x :: r).flatten = true := by
        intro x r
        induction r generalizing x with
        | nil =>
          intro h1
          have := h1 x (by simp)
          simpa using this
        | cons y r ih =>
          intro h1
          have := ih y fun s hs => h1 s (by simp [hs])
          rw [List.flatten_cons]
          exact (fd_app this).1
      rw [← hj]
      exact hl x r hf
theorem prs_count {t : List UInt8} {l : List Hk} (h : prsT t = .ok l) : hksC l = (splitL t).length := by
  unfold prsT at h
  split at h
  · cases h
  · exact hksP_ok _ (split_plain t) (Nat.le_refl _) h
/-- a part of what is written is never read as the whole -/
theorem normal_cut {s : List UInt8} {l : List Hk} (hw : prsT s = .ok l) {k : Nat} (hk : k < s.length) : prsT (s.take k) ≠ .ok l := by
  intro hp
  have c1 := prs_count hw
  have c2 := prs_count hp
  have f1 := prs_feed hw
  have f2 := prs_feed hp
  have g1 := split_count s
  have g2 := split_count (s.take k)
  have hfb : ∀ x : List UInt8, feedB x = fdB x := fun x => rfl
  have hs : s ≠ [] := by rintro rfl; simp at hk
  have e1 : (feedB s || s.isEmpty) = true := by
    rcases f1 with f1 | f1
    · exact absurd f1 hs
    · rw [hfb, f1]; rfl
  have e2 : (feedB (s.take k) || (s.take k).isEmpty) = true := by
    rcases f2 with f2 | f2
    · rw [f2]; rfl
    · rw [hfb, f2]; rfl
  rw [e1] at g1
  rw [e2] at g2
  simp only [if_true] at g1 g2
  have g3 : s.count 10 = (s.take k).count 10 + (s.drop k).count 10 := by
    rw [← List.count_append, List.take_append_drop]
  have g4 : 0 < (s.drop k).count 10 := by
    rw [List.count_pos_iff]
    rcases f1 with f1 | f1
    · exact absurd f1 hs
    · have h1 : s.getLast? = some 10 := by simpa [fdB] using f1
      have h2 : (s.drop k).getLast? = some 10 := by
        rw [List.getLast?_drop, if_neg (by omega), h1]
      exact List.mem_of_getLast? h2
  omega
end Go.Proofs.YtnlbjknfahhfaaaGreatDoor

/- The reference's Bare, walked: a line without its line feed. -/
set_option maxRecDepth 20000
namespace Go.Proofs.YtnlbjknfahhfaaaGreatDoor
open Go.RowKit
attribute [local go_sem] ByteArray.extract_mk

theorem no_at (l : List UInt8) (k : Nat) (h : k < (⟨l.toArray⟩ : ByteArray).size) : (⟨l.toArray⟩ : ByteArray)[k]'h = l[k]'(h) := rfl
attribute [local go_sem] no_at
/-- a line without its line feed -/
def bareT (s : List UInt8) : List UInt8 := if fdB s = true then s.dropLast else s
theorem bareT_yes {l : List UInt8} (h0 : 0 < l.length) (h : l[l.length - 1] = 10) : bareT l = l.take (l.length - 1) ∧ fdB l = true := by
  have hf : fdB l = true := by unfold fdB; rw [List.getLast?_eq_getElem?, List.getElem?_eq_getElem (by omega), h]; rfl
  exact ⟨by rw [bareT, hf, List.dropLast_eq_take]; rfl, hf⟩
theorem bareT_no {l : List UInt8} (h0 : 0 < l.length) (h : l[l.length - 1] ≠ 10) : bareT l = l ∧ fdB l = false := by
  have hf : fdB l = false := by unfold fdB; rw [List.getLast?_eq_getElem?, List.getElem?_eq_getElem (by omega)]; simpa using h
  exact ⟨by rw [bareT, hf]; rfl, hf⟩
end Go.Proofs.YtnlbjknfahhfaaaGreatDoor

/- The editor's form as texts and as lines: how an edit script is written, how commands are done; plain mathematics. -/
set_option maxRecDepth 20000
namespace Go.Proofs.YtnlbjknfahhfaaaGreatDoor
open Ln

/-- the command that shortens, and what stands for a line that is just a dot -/
def shB : List UInt8 := [115, 47, 46, 47, 47]
def shL : List UInt8 := [115, 47, 46, 47, 47, 10]
def dotsL : List (List UInt8) := [[46, 46, 10], [46, 10], shL]
/-- text lines; o: they are open -/
def txF : Bool → List (List UInt8) → List (List UInt8)
  | true, [] => [[46, 10]]
  | false, [] => []
  | o, s :: l => (if o = true then [] else [[97, 10]]) ++ (if bareT s = [46] then dotsL ++ txF false l else (bareT s ++ [10]) :: txF true l)
/-- the line of a change -/
def edC (c : Ch) : List UInt8 := if c.AN = 0 then Lib.itoa c.A ++ [97] else if c.BN = 0 then rngT c.A c.AN ++ [100] else rngT c.A c.AN ++ [99]
/-- a change, as lines -/
def edL (b : List (List UInt8)) (c : Ch) : List (List UInt8) := (edC c ++ [10]) :: (if c.BN = 0 then [] else txF true (cut b c.B c.BN))
/-- the last line lacks its line feed -/
def lkB (b : List (List UInt8)) : Bool := match b.getLast? with
  | none => false
  | some s => !fdB s
def endL (b : List (List UInt8)) : List (List UInt8) := if lkB b = true then [markT] else []
/-- an edit script, as lines, and as a text -/
def epL (l : List Ch) (b : List (List UInt8)) : List (List UInt8) := l.reverse.flatMap (edL b) ++ endL b
def epT (l : List Ch) (b : List (List UInt8)) : List UInt8 := (epL l b).flatten

/-- text lines are read -/
def txR : Nat → List (List UInt8) → Except (Nat × Int) (List (List UInt8) × Nat × List (List UInt8))
  | p, [] => .error (p + 1, 1)
  | p, s :: r => if fdB s = true then if s.dropLast = [46] then .ok ([], p + 1, r) else match txR (p + 1) r with
      | .error e => .error e
      | .ok (l, q, r2) => .ok (s.dropLast :: l, q, r2)
    else .error (p + 1, 3)
/-- a command with numbers: from where, up to where, whether text lines follow -/
def cmF (s : List UInt8) : Option (Int × Int × Bool) :=
  match s.getLast? with
  | none => none
  | some c => if c = 97 then (if Pn.parseE s.dropLast = 0 then some (Pn.parseV s.dropLast, Pn.parseV s.dropLast, true) else none)
    else if c = 99 then (match lnsP s.dropLast with
      | none => none
      | some (p, n) => some (p - 1, p - 1 + n, true))
    else if c = 100 then (match lnsP s.dropLast with
      | none => none
      | some (p, n) => some (p - 1, p - 1 + n, false))
    else none
/-- the end line, bare -/
def mkB : List UInt8 := [92, 32, 78, 111, 32, 110, 101, 119, 108, 105, 110, 101, 32, 97, 116, 32, 101, 110, 100, 32, 111, 102, 32, 102, 105, 108, 101]
def doE (tx : Bool) (p : Nat) (r : List (List UInt8)) : Except (Nat × Int) (List (List UInt8) × Nat × List (List UInt8)) := if tx = true then txR p r else .ok ([], p, r)
/-- lines taken out, others put in -/
def putE (T : List (List UInt8)) (i j : Nat) (l : List (List UInt8)) : List (List UInt8) := T.take i ++ (l ++ T.drop j)
def curE (i : Nat) (l : List (List UInt8)) : Nat := if l.length = 0 then 0 else i + l.length
/-- what a command does -/
def dodE (T : List (List UInt8)) (i j : Nat) (tx : Bool) (p : Nat) (r : List (List UInt8)) : Except (Nat × Int) (List (List UInt8) × Nat × Nat × List (List UInt8)) :=
  match doE tx p r with
  | .error e => .error e
  | .ok (l, q, r2) => .ok (putE T i j l, curE i l, q, r2)
def stE (p : Nat) (s : List UInt8) (r T : List (List UInt8)) (cur : Nat) : Except (Nat × Int) (List (List UInt8) × Nat × Nat × List (List UInt8)) :=
  if s = shB then if cur = 0 ∨ T.getD (cur - 1) [] = [] then .error (p + 1, 130) else .ok (T.set (cur - 1) (T.getD (cur - 1) []).tail, cur, p + 1, r)
  else if s = [97] then if cur = 0 then .error (p + 1, 130) else dodE T cur cur true (p + 1) r
  else match cmF s with
    | none => .error (p + 1, 3)
    | some (i, j, tx) => if (T.length : Int) < j then .error (p + 1, 2) else dodE T i.toNat j.toNat tx (p + 1) r
/-- the lines that are there at the end -/
def resE (T : List (List UInt8)) (en : Bool) : List (List UInt8) := (T.take (T.length - (if en = true then 1 else 0))).map (· ++ [10]) ++ T.drop (T.length - (if en = true then 1 else 0))
/-- the next line is done: what is there, the current line, whether the end line was there, the place, what is left -/
def sdE (p : Nat) (s : List UInt8) (r T : List (List UInt8)) (cur : Nat) (en : Bool) : Except (Nat × Int) (List (List UInt8) × Nat × Bool × Nat × List (List UInt8)) :=
  if fdB s = true then if en = true then .error (p + 1, 7) else if s.dropLast = mkB then .ok (T, cur, true, p + 1, r) else match stE p s.dropLast r T cur with
    | .error e => .error e
    | .ok (T1, c1, q, r2) => .ok (T1, c1, false, q, r2)
  else .error (p + 1, 3)
def runE : Nat → Nat → List (List UInt8) → List (List UInt8) → Nat → Bool → Except (Nat × Int) (List (List UInt8))
  | 0, _, _, T, _, en => .ok (resE T en)
  | _ + 1, _, [], T, _, en => .ok (resE T en)
  | f + 1, p, s :: r, T, cur, en => match sdE p s r T cur en with
    | .error e => .error e
    | .ok (T1, c1, e1, q, r2) => runE f q r2 T1 c1 e1
/-- 13.2 -/
def edR (t : List UInt8) (a : List (List UInt8)) : Except (Nat × Int) (List (List UInt8)) := if 1048576 < t.length then .error (0, 9) else runE (splitL t).length 0 (splitL t) (a.map bareT) 0 false

theorem runE_nil (f p : Nat) (T : List (List UInt8)) (cur : Nat) (en : Bool) : runE f p [] T cur en = .ok (resE T en) := by cases f <;> rfl
theorem txR_len : ∀ {r : List (List UInt8)} {p q : Nat} {l r2 : List (List UInt8)}, txR p r = .ok (l, q, r2) → r2.length < r.length ∧ q + r2.length = p + r.length
  | [], p, q, l, r2, h => by cases h
  | s :: r, p, q, l, r2, h => by
    simp only [txR] at h
    split at h
    · split at h
      · cases h
        simp only [List.length_cons]
        omega
      · split at h
        · cases h
        · rename_i l' q' r' h'
          cases h
          have := txR_len h'
          simp only [List.length_cons]
          omega
    · cases h
theorem txR_drop : ∀ {r : List (List UInt8)} {p q : Nat} {l r2 : List (List UInt8)}, txR p r = .ok (l, q, r2) → p ≤ q ∧ r2 = r.drop (q - p)
  | [], p, q, l, r2, h => by cases h
  | s :: r, p, q, l, r2, h => by
    simp only [txR] at h
    split at h
    · split at h
      · cases h
        refine ⟨by omega, ?_⟩
        rw [show p + 1 - p = 1 by omega]
        rfl
      · split at h
        · cases h
        · rename_i l' q' r' h'
          cases h
          have := txR_drop h'
          refine ⟨by omega, ?_⟩
          rw [this.2, show q - p = (q - (p + 1)) + 1 by omega, List.drop_succ_cons]
    · cases h
/-- some lines of commands are done -/
def Runs (p : Nat) (ls T : List (List UInt8)) (cur : Nat) (p' : Nat) (ls' T' : List (List UInt8)) (cur' : Nat) : Prop :=
  ∀ f, ls.length ≤ f → ∃ f', ls'.length ≤ f' ∧ runE f p ls T cur false = runE f' p' ls' T' cur' false
theorem Runs.refl (p : Nat) (ls T : List (List UInt8)) (cur : Nat) : Runs p ls T cur p ls T cur := fun f hf => ⟨f, hf, rfl⟩
theorem Runs.trans {p p1 p2 : Nat} {ls ls1 ls2 T T1 T2 : List (List UInt8)} {c c1 c2 : Nat} (h : Runs p ls T c p1 ls1 T1 c1) (k : Runs p1 ls1 T1 c1 p2 ls2 T2 c2) : Runs p ls T c p2 ls2 T2 c2 := fun f hf => by
  obtain ⟨f1, h1, e1⟩ := h f hf
  obtain ⟨f2, h2, e2⟩ := k f1 h1
  exact ⟨f2, h2, e1.trans e2⟩
theorem Runs.step {p q : Nat} {s : List UInt8} {r r2 T T1 : List (List UInt8)} {cur c1 : Nat} (hm : s ≠ mkB) (h : stE p s r T cur = .ok (T1, c1, q, r2)) (hl : r2.length ≤ r.length) : Runs p ((s ++ [10]) :: r) T cur q r2 T1 c1 := fun f hf => by
  cases f with
  | zero => simp at hf
  | succ f =>
    refine ⟨f, by simp only [List.length_cons] at hf; omega, ?_⟩
    have e : sdE p (s ++ [10]) r T cur false = .ok (T1, c1, false, q, r2) := by
      unfold sdE
      rw [if_pos (fd_snoc s), if_neg (by decide), List.dropLast_concat, if_neg hm, h]
    rw [runE, e]
/-- the text lines up to the first dot, and what stands behind -/
def sgF : List (List UInt8) → List (List UInt8)
  | [] => []
  | s :: l => if bareT s = [46] then [[46, 46]] else bareT s :: sgF l
def rsF : List (List UInt8) → List (List UInt8)
  | [] => []
  | s :: l => if bareT s = [46] then shL :: txF false l else rsF l
theorem txR_sg (R : List (List UInt8)) : ∀ (L : List (List UInt8)) (p : Nat), ∃ q, txR p (txF true L ++ R) = .ok (sgF L, q, rsF L ++ R)
  | [], p => ⟨p + 1, by simp [txF, txR, sgF, rsF, fdB]⟩
  | s :: l, p => by
    by_cases h : bareT s = [46]
    · refine ⟨p + 1 + 1, ?_⟩
      simp [txF, h, dotsL, txR, sgF, rsF, fdB]
    · obtain ⟨q, hq⟩ := txR_sg R l (p + 1)
      refine ⟨q, ?_⟩
      have e : txF true (s :: l) ++ R = (bareT s ++ [10]) :: (txF true l ++ R) := by simp [txF, h]
      rw [e, txR, if_pos (fd_snoc _), List.dropLast_concat, if_neg h, hq]
      simp [sgF, rsF, h]
theorem sg_part : ∀ (L : List (List UInt8)), (sgF L = L.map bareT ∧ rsF L = []) ∨ ∃ L1 s L2, L = L1 ++ s :: L2 ∧ bareT s = [46] ∧ sgF L = L1.map bareT ++ [[46, 46]] ∧ rsF L = shL :: txF false L2
  | [] => .inl ⟨rfl, rfl⟩
  | s :: l => by
    by_cases h : bareT s = [46]
    · exact .inr ⟨[], s, l, rfl, h, by simp [sgF, h], by simp [rsF, h]⟩
    · rcases sg_part l with ⟨h1, h2⟩ | ⟨L1, t, L2, h1, h2, h3, h4⟩
      · exact .inl ⟨by simp [sgF, h, h1], by simp [rsF, h, h2]⟩
      · exact .inr ⟨s :: L1, t, L2, by rw [h1]; rfl, h2, by simp [sgF, h, h3], by simp [rsF, h, h4]⟩
theorem txF_false {s : List UInt8} {l : List (List UInt8)} : txF false (s :: l) = [97, 10] :: txF true (s :: l) := by simp [txF]
theorem put_put (T X Y : List (List UInt8)) (i j : Nat) (hi : i ≤ T.length) : putE (putE T i j X) (i + X.length) (i + X.length) Y = putE T i j (X ++ Y) := by
  have l1 : (T.take i).length = i := by rw [List.length_take]; omega
  unfold putE
  have e1 : (T.take i ++ (X ++ T.drop j)).take (i + X.length) = T.take i ++ X := by
    rw [← List.append_assoc, List.take_append_of_le_length (by rw [List.length_append, l1]; omega), List.take_of_length_le (by rw [List.length_append, l1]; omega)]
  have e2 : (T.take i ++ (X ++ T.drop j)).drop (i + X.length) = T.drop j := by
    rw [← List.append_assoc, List.drop_append_of_le_length (by rw [List.length_append, l1]; omega), List.drop_of_length_le (by rw [List.length_append, l1]; omega), List.nil_append]
  rw [e1, e2]
  simp
theorem put_len (T X : List (List UInt8)) (i j : Nat) (hi : i ≤ T.length) : i + X.length ≤ (putE T i j X).length := by
  unfold putE
  simp only [List.length_append, List.length_take, List.length_drop]
  omega
/-- text lines that were written are put in, whatever dots there are -/
theorem put_back (R : List (List UInt8)) : ∀ (n : Nat) (L : List (List UInt8)), L.length ≤ n → L ≠ [] → ∀ (T : List (List UInt8)) (i j q : Nat), i ≤ T.length → ∃ q' c', Runs q (rsF L ++ R) (putE T i j (sgF L)) (curE i (sgF L)) q' R (putE T i j (L.map bareT)) c' := by
  intro n
  induction n with
  | zero =>
    intro L hn h0
    exact absurd (List.eq_nil_of_length_eq_zero (by omega)) h0
  | succ n ih =>
    intro L hn h0 T i j q hi
    rcases sg_part L with ⟨h1, h2⟩ | ⟨L1, s, L2, hL, hs, h3, h4⟩
    · rw [h1, h2]
      exact ⟨q, _, Runs.refl _ _ _ _⟩
    · rw [h3, h4]
      have hcur : curE i (L1.map bareT ++ [[46, 46]]) = i + L1.length + 1 := by
        unfold curE
        rw [if_neg (by simp)]
        simp
        omega
      have l1 : (T.take i).length = i := by rw [List.length_take]; omega
      have hg : ∀ z : List UInt8, (putE T i j (L1.map bareT ++ [z])) = (T.take i ++ L1.map bareT) ++ z :: T.drop j := fun z => by simp [putE]
      have hlen : (T.take i ++ L1.map bareT).length = i + L1.length := by rw [List.length_append, l1, List.length_map]
      have hget : (putE T i j (L1.map bareT ++ [[46, 46]])).getD (i + L1.length + 1 - 1) [] = [46, 46] := by
        rw [hg, List.getD_eq_getElem?_getD, List.getElem?_append_right (by omega), hlen, show i + L1.length + 1 - 1 - (i + L1.length) = 0 by omega]
        rfl
      have hset : (putE T i j (L1.map bareT ++ [[46, 46]])).set (i + L1.length + 1 - 1) [46] = putE T i j (L1.map bareT ++ [[46]]) := by
        rw [hg, hg, List.set_append_right _ _ (by omega), hlen, show i + L1.length + 1 - 1 - (i + L1.length) = 0 by omega]
        rfl
      have s1 : stE q shB (txF false L2 ++ R) (putE T i j (L1.map bareT ++ [[46, 46]])) (i + L1.length + 1) = .ok (putE T i j (L1.map bareT ++ [[46]]), i + L1.length + 1, q + 1, txF false L2 ++ R) := by
        unfold stE
        rw [if_pos rfl, hget, if_neg (by simp), List.tail_cons, hset]
      have r1 : Runs q (shL :: txF false L2 ++ R) (putE T i j (L1.map bareT ++ [[46, 46]])) (i + L1.length + 1) (q + 1) (txF false L2 ++ R) (putE T i j (L1.map bareT ++ [[46]])) (i + L1.length + 1) := Runs.step (s := shB) (by decide) s1 (Nat.le_refl _)
      rw [hcur]
      cases L2 with
      | nil =>
        refine ⟨q + 1, i + L1.length + 1, ?_⟩
        have e : L.map bareT = L1.map bareT ++ [[46]] := by rw [hL]; simp [hs]
        rw [e]
        exact r1
      | cons t L2 =>
        obtain ⟨q2, hq2⟩ := txR_sg R (t :: L2) (q + 1 + 1)
        have hX : (L1.map bareT ++ [[46]]).length = L1.length + 1 := by simp
        have s2 : stE (q + 1) [97] (txF true (t :: L2) ++ R) (putE T i j (L1.map bareT ++ [[46]])) (i + L1.length + 1) = .ok (putE (putE T i j (L1.map bareT ++ [[46]])) (i + L1.length + 1) (i + L1.length + 1) (sgF (t :: L2)), curE (i + L1.length + 1) (sgF (t :: L2)), q2, rsF (t :: L2) ++ R) := by
          unfold stE
          rw [if_neg (by decide), if_pos rfl, if_neg (by omega)]
          unfold dodE doE
          rw [if_pos rfl, hq2]
        have hle := (txR_len hq2).1
        have r2 := Runs.step (s := [97]) (by decide) s2 (Nat.le_of_lt hle)
        have hpl := put_len T (L1.map bareT ++ [[46]]) i j hi
        rw [hX] at hpl
        obtain ⟨q3, c3, r3⟩ := ih (t :: L2) (by rw [hL] at hn; simp at hn ⊢; omega) (by simp) (putE T i j (L1.map bareT ++ [[46]])) (i + L1.length + 1) (i + L1.length + 1) q2 (by omega)
        have e := put_put T (L1.map bareT ++ [[46]]) ((t :: L2).map bareT) i j hi
        rw [hX, ← Nat.add_assoc] at e
        rw [e] at r3
        have e2 : L.map bareT = (L1.map bareT ++ [[46]]) ++ (t :: L2).map bareT := by rw [hL]; simp [hs]
        refine ⟨q3, c3, ?_⟩
        rw [e2]
        rw [txF_false] at r1
        exact r1.trans (r2.trans r3)
theorem dig_first {s : List UInt8} {t : List UInt8} (hs : ∀ c ∈ s, Pn.digB c = true) (h0 : s ≠ []) : s ++ t ≠ shB ∧ s ++ t ≠ [97] ∧ s ++ t ≠ mkB := by
  cases s with
  | nil => exact absurd rfl h0
  | cons c s =>
    have h := Pn.digB_out (hs c (by simp))
    refine ⟨?_, ?_, ?_⟩ <;> (intro e; rw [List.cons_append] at e; injection e with e1 _; rw [e1] at h; simp at h)
theorem rng_first {p n : Int} (t : List UInt8) (hp : 0 ≤ p) : rngT p n ++ t ≠ shB ∧ rngT p n ++ t ≠ [97] ∧ rngT p n ++ t ≠ mkB := by
  unfold rngT
  split
  · exact dig_first (itoa_dig (by omega)) (itoa_ne (by omega))
  · rw [List.append_assoc]
    exact dig_first (itoa_dig (by omega)) (itoa_ne (by omega))
/-- the line of a change is read -/
theorem edC_back {c : Ch} (hn : numB c = true) (hA : c.A + c.AN ≤ 2147483647) : (edC c ≠ shB ∧ edC c ≠ [97] ∧ edC c ≠ mkB) ∧ cmF (edC c) = some (c.A, c.A + c.AN, decide (c.BN ≠ 0)) := by
  have h := (numB_iff c).1 hn
  unfold edC
  by_cases h1 : c.AN = 0
  · rw [if_pos h1]
    refine ⟨dig_first (itoa_dig (by omega)) (itoa_ne (by omega)), ?_⟩
    obtain ⟨e1, e2⟩ := parse_itoa_ok (n := c.A) (by omega) (by omega)
    unfold cmF
    rw [List.getLast?_concat, List.dropLast_concat]
    simp only [if_true]
    rw [if_pos e2, e1, h1, Int.add_zero, decide_eq_true (by omega : c.BN ≠ 0)]
  · rw [if_neg h1]
    by_cases h2 : c.BN = 0
    · rw [if_pos h2]
      refine ⟨rng_first _ (by omega), ?_⟩
      unfold cmF
      rw [List.getLast?_concat, List.dropLast_concat]
      simp only
      rw [if_neg (by decide), if_neg (by decide), if_pos trivial, lnsP_rng (by omega) (by omega) hA]
      simp only [Int.add_sub_cancel]
      rw [decide_eq_false (by omega : ¬ c.BN ≠ 0)]
    · rw [if_neg h2]
      refine ⟨rng_first _ (by omega), ?_⟩
      unfold cmF
      rw [List.getLast?_concat, List.dropLast_concat]
      simp only
      rw [if_neg (by decide), if_pos trivial, lnsP_rng (by omega) (by omega) hA]
      simp only [Int.add_sub_cancel]
      rw [decide_eq_true (by omega : c.BN ≠ 0)]
/-- a change is done -/
theorem ch_back {c : Ch} {b : List (List UInt8)} (hn : numB c = true) (hA : c.A + c.AN ≤ 2147483647) (hB : c.B + c.BN ≤ b.length) (R T : List (List UInt8)) (hT : c.A + c.AN ≤ T.length) (p cur : Nat) :
    ∃ p' c', Runs p (edL b c ++ R) T cur p' R (putE T c.A.toNat (c.A + c.AN).toNat ((cut b c.B c.BN).map bareT)) c' := by
  have h := (numB_iff c).1 hn
  obtain ⟨⟨n1, n2, n3⟩, hc⟩ := edC_back hn hA
  unfold edL
  by_cases h2 : c.BN = 0
  · rw [if_pos h2]
    have e : (cut b c.B c.BN).map bareT = [] := by rw [h2]; simp [cut]
    rw [e]
    refine ⟨p + 1, curE c.A.toNat [], Runs.step n3 ?_ (Nat.le_refl _)⟩
    unfold stE
    rw [if_neg n1, if_neg n2, hc]
    simp only
    rw [if_neg (by omega)]
    unfold dodE doE
    rw [if_neg (by simp [h2])]
    rfl
  · rw [if_neg h2]
    have hl : ((cut b c.B c.BN).length : Int) = c.BN := hcut_length (by omega) (by omega) hB
    obtain ⟨q, hq⟩ := txR_sg R (cut b c.B c.BN) (p + 1)
    have s1 : stE p (edC c) (txF true (cut b c.B c.BN) ++ R) T cur = .ok (putE T c.A.toNat (c.A + c.AN).toNat (sgF (cut b c.B c.BN)), curE c.A.toNat (sgF (cut b c.B c.BN)), q, rsF (cut b c.B c.BN) ++ R) := by
      unfold stE
      rw [if_neg n1, if_neg n2, hc]
      simp only
      rw [if_neg (by omega)]
      unfold dodE doE
      rw [if_pos (by simp [h2]), hq]
    have r1 := Runs.step n3 s1 (Nat.le_of_lt (txR_len hq).1)
    obtain ⟨q2, c2, r2⟩ := put_back R _ (cut b c.B c.BN) (Nat.le_refl _) (by intro e; rw [e] at hl; simp at hl; omega) T c.A.toNat (c.A + c.AN).toNat q (by omega)
    exact ⟨q2, c2, r1.trans r2⟩
/-- the commands of a script are done, the last one first -/
theorem chs_back {a b : List (List UInt8)} (hal : a.length ≤ 2147483647) (l : List Ch) : ∀ (fl : Bool) (x y : Int), 0 ≤ x → 0 ≤ y → Right fl x y a.length b.length l → ∀ (X R : List (List UInt8)), (X.length : Int) = x → ∀ (p cur : Nat), ∃ p' c', Runs p (l.reverse.flatMap (edL b) ++ R) (X ++ (a.drop x.toNat).map bareT) cur p' R (X ++ ((piecesL x y a.length b.length l).flatMap (pa a b)).map bareT) c' := by
  induction l with
  | nil =>
    intro fl x y hx hy hr X R hX p cur
    obtain ⟨h1, h2, h3⟩ := hr
    refine ⟨p, cur, ?_⟩
    have e : (piecesL x y a.length b.length []).flatMap (pa a b) = a.drop x.toNat := by
      simp only [piecesL, List.flatMap_cons, List.flatMap_nil, List.append_nil, pa]
      have e1 : cut b (b.length : Int) 0 = [] := by simp [cut]
      rw [e1, List.append_nil, cut, List.take_of_length_le (by rw [List.length_drop]; omega)]
    rw [e]
    exact Runs.refl _ _ _ _
  | cons c l ih =>
    intro fl x y hx hy hr X R hX p cur
    obtain ⟨⟨h1, h2, h3, h4⟩, h5⟩ := hr
    have hn := (numB_iff c).1 h1
    have hle := h5.le
    obtain ⟨d, hd⟩ : ∃ d, (a.drop x.toNat) = d := ⟨_, rfl⟩
    have hdl : d.length = a.length - x.toNat := by rw [← hd, List.length_drop]
    have hd2 : a.drop (c.A + c.AN).toNat = d.drop (c.A + c.AN - x).toNat := by
      rw [← hd, List.drop_drop]
      congr 1
      omega
    have hc1 : cut a x (c.A - x) = d.take (c.A - x).toNat := by rw [cut, hd]
    obtain ⟨X2, hX2⟩ : ∃ X2, X ++ (d.take (c.A + c.AN - x).toNat).map bareT = X2 := ⟨_, rfl⟩
    have hX2l : (X2.length : Int) = c.A + c.AN := by
      rw [← hX2, List.length_append, List.length_map, List.length_take]
      omega
    have e0 : X ++ d.map bareT = X2 ++ (a.drop (c.A + c.AN).toNat).map bareT := by
      rw [← hX2, hd2, List.append_assoc, ← List.map_append, List.take_append_drop]
    have er : (c :: l).reverse.flatMap (edL b) ++ R = l.reverse.flatMap (edL b) ++ (edL b c ++ R) := by
      rw [List.reverse_cons, List.flatMap_append, List.flatMap_singleton, List.append_assoc]
    obtain ⟨p1, c1, r1⟩ := ih false (c.A + c.AN) (c.B + c.BN) (by omega) (by omega) h5 X2 (edL b c ++ R) hX2l p cur
    obtain ⟨Y, hY⟩ : ∃ Y, (piecesL (c.A + c.AN) (c.B + c.BN) a.length b.length l).flatMap (pa a b) = Y := ⟨_, rfl⟩
    rw [hY] at r1
    obtain ⟨p2, c2, r2⟩ := ch_back (b := b) h1 (by omega) (by omega) R (X2 ++ Y.map bareT) (by rw [List.length_append]; omega) p1 c1
    refine ⟨p2, c2, ?_⟩
    rw [er, hd, e0]
    have ef : X ++ ((piecesL x y a.length b.length (c :: l)).flatMap (pa a b)).map bareT = putE (X2 ++ Y.map bareT) c.A.toNat (c.A + c.AN).toNat ((cut b c.B c.BN).map bareT) := by
      simp only [piecesL, List.flatMap_cons, hY, pa]
      unfold putE
      have t1 : (X2 ++ Y.map bareT).drop (c.A + c.AN).toNat = Y.map bareT := by
        rw [List.drop_append_of_le_length (by omega), List.drop_of_length_le (by omega), List.nil_append]
      have t2 : (X2 ++ Y.map bareT).take c.A.toNat = X ++ (cut a x (c.A - x)).map bareT := by
        rw [List.take_append_of_le_length (by omega), ← hX2, List.take_append, List.take_of_length_le (by omega), hc1, ← List.map_take, List.take_take]
        congr 4
        omega
      rw [t1, t2]
      simp
    rw [ef]
    exact r1.trans r2
end Go.Proofs.YtnlbjknfahhfaaaGreatDoor

/- The commands of two texts make the second of the first; plain mathematics. -/
set_option maxRecDepth 20000
namespace Go.Proofs.YtnlbjknfahhfaaaGreatDoor
open Ln

theorem efb_feed {s : List UInt8} (h : fdB s = true) : bareT s ++ [10] = s := by
  unfold bareT
  rw [if_pos h]
  exact (fd_form h).symm
theorem efb_no {s : List UInt8} (h : fdB s = false) : bareT s = s := by
  unfold bareT
  rw [if_neg (by rw [h]; decide)]
theorem efb_bytes {s : List UInt8} (h : linB s = true) : ∀ c ∈ bareT s, c ≠ 10 := by
  obtain ⟨h0, h1⟩ := lin_no h
  cases hf : fdB s with
  | true =>
    unfold bareT
    rw [if_pos hf]
    exact h1
  | false =>
    rw [efb_no hf]
    intro c hc e
    subst e
    rcases List.eq_nil_or_concat s with rfl | ⟨q, y, rfl⟩
    · cases hc
    · rw [List.concat_eq_append] at hc hf h1
      rcases List.mem_append.1 hc with hc | hc
      · exact h1 10 (by simpa using hc) rfl
      · have : y = 10 := (List.mem_singleton.1 hc).symm
        subst this
        rw [fd_snoc] at hf
        cases hf
theorem rows_init {b : List (List UInt8)} (h : Rows b) : ∀ s ∈ b.dropLast, fdB s = true := by
  induction b with
  | nil => intro s hs; cases hs
  | cons x t ih =>
    intro s hs
    cases t with
    | nil => cases hs
    | cons y t =>
      rw [List.dropLast_cons_of_ne_nil (by simp)] at hs
      rcases List.mem_cons.1 hs with rfl | hs
      · exact h.2.1 (by simp)
      · exact ih h.2.2 s hs
theorem map_fed {x : List (List UInt8)} (h : ∀ s ∈ x, fdB s = true) : (x.map bareT).map (· ++ [10]) = x := by
  induction x with
  | nil => rfl
  | cons s x ih =>
    rw [List.map_cons, List.map_cons, ih fun t ht => h t (by simp [ht]), efb_feed (h s (by simp))]
/-- right lines without their line feeds, and what the end line says, are the lines again -/
theorem res_back {b : List (List UInt8)} (h : Rows b) : resE (b.map bareT) (lkB b) = b := by
  rcases List.eq_nil_or_concat b with rfl | ⟨x, z, rfl⟩
  · rfl
  · rw [List.concat_eq_append] at h ⊢
    have hi := rows_init h
    rw [List.dropLast_concat] at hi
    have hl : lkB (x ++ [z]) = !fdB z := by
      unfold lkB
      rw [List.getLast?_concat]
    rw [hl]
    unfold resE
    rw [List.map_append]
    have e : ((x.map bareT) ++ [z].map bareT).length = x.length + 1 := by simp
    rw [e]
    cases hf : fdB z with
    | true =>
      rw [show (!true) = false from rfl, if_neg (by decide), Nat.sub_zero, List.take_of_length_le (by omega), List.drop_of_length_le (by omega), List.append_nil, List.map_append, map_fed hi]
      simp [efb_feed hf]
    | false =>
      rw [show (!false) = true from rfl, if_pos rfl, Nat.add_sub_cancel]
      have e1 : (x.map bareT ++ [z].map bareT).take x.length = x.map bareT := by
        rw [List.take_append_of_le_length (by simp), List.take_of_length_le (by simp)]
      have e2 : (x.map bareT ++ [z].map bareT).drop x.length = [z] := by
        rw [List.drop_append_of_le_length (by simp), List.drop_of_length_le (by simp)]
        simp [efb_no hf]
      rw [e1, e2, map_fed hi]
theorem fed_txF (L : List (List UInt8)) (h : ∀ s ∈ L, linB s = true) : ∀ o, Fed (txF o L) := by
  induction L with
  | nil =>
    intro o
    cases o with
    | true =>
      intro s hs
      rw [List.mem_singleton.1 hs]
      exact ⟨[46], rfl, by decide⟩
    | false =>
      intro s hs
      cases hs
  | cons x L ih =>
    intro o s hs
    have hih := ih fun t ht => h t (by simp [ht])
    simp only [txF] at hs
    rcases List.mem_append.1 hs with hs | hs
    · split at hs
      · cases hs
      · rw [List.mem_singleton.1 hs]
        exact ⟨[97], rfl, by decide⟩
    · split at hs
      · rcases List.mem_append.1 hs with hs | hs
        · unfold dotsL shL at hs
          simp only [List.mem_cons, List.not_mem_nil, or_false] at hs
          rcases hs with rfl | rfl | rfl
          · exact ⟨[46, 46], rfl, by decide⟩
          · exact ⟨[46], rfl, by decide⟩
          · exact ⟨shB, rfl, by decide⟩
        · exact hih false s hs
      · rcases List.mem_cons.1 hs with rfl | hs
        · exact ⟨bareT x, rfl, efb_bytes (h x (by simp))⟩
        · exact hih true s hs
theorem edC_bytes {c : Ch} (hn : numB c = true) : ∀ x ∈ edC c, x ≠ 10 := by
  have h := (numB_iff c).1 hn
  intro x hx
  unfold edC at hx
  split at hx
  · rcases List.mem_append.1 hx with hx | hx
    · exact (dig_facts (itoa_dig (by omega) x hx)).2.2.1
    · rw [List.mem_singleton.1 hx]; decide
  · split at hx
    · rcases List.mem_append.1 hx with hx | hx
      · exact (num_facts (rng_num (by omega) (by omega) x hx)).2.1
      · rw [List.mem_singleton.1 hx]; decide
    · rcases List.mem_append.1 hx with hx | hx
      · exact (num_facts (rng_num (by omega) (by omega) x hx)).2.1
      · rw [List.mem_singleton.1 hx]; decide
theorem fed_ep {l : List Ch} {b : List (List UInt8)} (hb : checkB b = true) (h : ∀ c ∈ l, numB c = true) : Fed (epL l b) := by
  intro s hs
  unfold epL at hs
  rcases List.mem_append.1 hs with hs | hs
  · obtain ⟨c, hc, hs⟩ := List.mem_flatMap.1 hs
    have hn := h c (List.mem_reverse.1 hc)
    unfold edL at hs
    rcases List.mem_cons.1 hs with rfl | hs
    · exact ⟨edC c, rfl, edC_bytes hn⟩
    · split at hs
      · cases hs
      · exact fed_txF _ (rows_lin (rows_cut hb c.B c.BN)) true s hs
  · unfold endL at hs
    split at hs
    · rw [List.mem_singleton.1 hs]
      exact ⟨markT.dropLast, rfl, by decide⟩
    · cases hs
theorem split_ep {l : List Ch} {b : List (List UInt8)} (hb : checkB b = true) (h : ∀ c ∈ l, numB c = true) : splitL (epT l b) = epL l b := right_split _ (fed_check (fed_ep hb h))
/-- 13.3 -/
theorem ed_back {l : List Ch} {a b : List (List UInt8)} (hs : Script l a.length b.length) (hb : checkB b = true) (hal : a.length ≤ 2147483647) (same : ∀ r ∈ U 0 0 a.length b.length l, a[r.a.toNat]? = b[r.b.toNat]?) :
    edR (epT l b) a = if 1048576 < (epT l b).length then .error (0, 9) else .ok b := by
  have hm := right_mem hs.2.2
  unfold edR
  rw [split_ep hb fun c hc => (hm c hc).1]
  split
  · rfl
  · obtain ⟨p1, c1, r1⟩ := chs_back hal l true 0 0 (Int.le_refl _) (Int.le_refl _) hs.2.2 [] (endL b) rfl 0 0
    rw [reach hs.2.2 (Int.le_refl _) (Int.le_refl _) same] at r1
    obtain ⟨f, hf, e⟩ := r1 (epL l b).length (Nat.le_refl _)
    have e' : runE (epL l b).length 0 (epL l b) (a.map bareT) 0 false = runE f p1 (endL b) (b.map bareT) c1 false := e
    rw [e']
    have hR := res_back (rows_of hb)
    unfold endL at hf ⊢
    by_cases hk : lkB b = true
    · rw [if_pos hk] at hf ⊢
      rw [hk] at hR
      cases f with
      | zero => simp at hf
      | succ f =>
        have e1 : sdE p1 markT [] (b.map bareT) c1 false = .ok (b.map bareT, c1, true, p1 + 1, []) := by
          unfold sdE
          rw [if_pos (by decide), if_neg (by decide), if_pos (by decide)]
        rw [runE, e1]
        simp only
        rw [runE_nil, hR]
    · rw [if_neg hk]
      rw [Bool.eq_false_iff.2 hk] at hR
      rw [runE_nil, hR]
/-- lines without their line feeds, and with them, are the same to the editor -/
theorem ed_bare {t : List UInt8} {a b : List (List UInt8)} (h : a.map bareT = b.map bareT) : edR t a = edR t b := by
  unfold edR
  rw [h]
theorem ed_nil (a : List (List UInt8)) : edR [] a = .ok ((a.map bareT).map (· ++ [10])) := by
  have e : edR [] a = .ok (resE (a.map bareT) false) := rfl
  rw [e]
  unfold resE
  rw [if_neg (by decide), Nat.sub_zero, List.take_of_length_le (Nat.le_refl _), List.drop_of_length_le (Nat.le_refl _), List.append_nil]
/-- what the code writes of lines is what the chapter says -/
def wrF : List (List UInt8) → List (List UInt8)
  | [] => []
  | s :: l => (if bareT s = [46] then dotsL ++ (if l.length = 0 then [] else [[97, 10]]) else if l.length = 0 then [bareT s ++ [10], [46, 10]] else [bareT s ++ [10]]) ++ wrF l
theorem wr_tx : ∀ (l : List (List UInt8)), l ≠ [] → wrF l = txF true l
  | [], h => absurd rfl h
  | [s], _ => by
    by_cases h : bareT s = [46]
    · simp [wrF, txF, h]
    · simp [wrF, txF, h]
  | s :: t :: l, _ => by
    have hi := wr_tx (t :: l) (by simp)
    rw [wrF, hi]
    by_cases h : bareT s = [46]
    · have e : txF true (s :: t :: l) = dotsL ++ txF false (t :: l) := by rw [txF]; simp [h]
      rw [e, txF_false, if_pos h, if_neg (by simp)]
      simp
    · have e : txF true (s :: t :: l) = (bareT s ++ [10]) :: txF true (t :: l) := by rw [txF]; simp [h]
      rw [e, if_neg h, if_neg (by simp)]
      rfl
end Go.Proofs.YtnlbjknfahhfaaaGreatDoor

/- Two texts joined. -/
set_option maxRecDepth 20000
namespace Go.Proofs.YtnlbjknfahhfaaaGreatDoor

theorem ba_join (a b : List UInt8) : ((⟨a.toArray⟩ : ByteArray) ++ (⟨b.toArray⟩ : ByteArray)) = ⟨(a ++ b).toArray⟩ := by
  apply ByteArray.ext
  simp
end Go.Proofs.YtnlbjknfahhfaaaGreatDoor

/- The reference's text of a number, walked: the decimal digits, with a sign ahead of a negative one. -/
set_option maxRecDepth 20000
namespace Go.Proofs.YtnlbjknfahhfaaaGreatDoor
open Go.RowKit

theorem tx_conv {P : Program} (src dst e : TypeId) (hs : P.underlying src = some (.slice e)) (he : P.underlying e = some (.int .u8)) (hd : P.underlying dst = some .string) (w : World) (x : Int) (h0 : 0 ≤ x) (h1 : x < 256) :
    (convert src dst (.slice (some ⟨w.heap.size, 0, none⟩) 1 1)).run P (w.alloc (.cells #[.int .u8 x] e)) = .ok (.string ⟨#[UInt8.ofNat x.toNat]⟩) (w.alloc (.cells #[.int .u8 x] e)) := by
  have hx : ((UInt8.ofNat x.toNat).toNat : Int) = x := by simp only [UInt8.toNat_ofNat']; omega
  refine run_convert_bytes_back (w.alloc (.cells #[.int .u8 x] e)) src dst e ⟨w.heap.size, 0, none⟩ 1 [UInt8.ofNat x.toNat] hs he hd ?_
  intro j hj
  have ej : j = 0 := by simpa using hj
  subst ej
  have := heap_alloc_new w (.cells #[.int .u8 x] e)
  show (w.alloc (.cells #[.int .u8 x] e)).cell? ⟨w.heap.size, 0 + 0, none⟩ = some (.int .u8 ((UInt8.ofNat x.toNat).toNat : Int))
  rw [hx]
  unfold World.cell?
  dsimp only
  rw [this]
  rfl
/-- the last digit of a number -/
def txc (m : Nat) : UInt8 := UInt8.ofNat (48 + m % 10)
/-- the digits ahead of what is written -/
def txp (m : Nat) : List UInt8 := if m = 0 then [] else Lib.decDigits m
theorem txp_step (m : Nat) (h : 0 < m) : txp m = txp (m / 10) ++ [txc m] := by
  unfold txp
  rw [if_neg (by omega), Lib.decDigits]
  by_cases h10 : m < 10
  · rw [dif_pos h10, if_pos (by omega)]
    have : m % 10 = m := by omega
    simp [txc, this]
  · rw [dif_neg h10, if_neg (by omega)]; rfl
theorem dec_txp (m : Nat) : Lib.decDigits m = txp (m / 10) ++ [txc m] := by
  by_cases h : m = 0
  · subst h; rw [Lib.decDigits]; simp [txp, txc]
  · have := txp_step m (by omega)
    rw [← this]; simp [txp, h]
theorem dec_short : ∀ (n m : Nat), m < 10 ^ (n + 1) → (Lib.decDigits m).length ≤ n + 1
  | 0, m, h => by rw [Lib.decDigits, dif_pos (by simpa using h)]; simp
  | n + 1, m, h => by
    rw [Lib.decDigits]
    split
    · simp
    · have h2 : m / 10 < 10 ^ (n + 1) := by
        rw [Nat.div_lt_iff_lt_mul (by omega), ← Nat.pow_succ]; exact h
      have := dec_short n (m / 10) h2
      simp; omega
theorem itoa_short (n : Int) (h0 : -9223372036854775808 ≤ n) (h1 : n ≤ 9223372036854775807) : (Lib.itoa n).length ≤ 21 := by
  have hal : (Lib.decDigits n.natAbs).length ≤ 20 := dec_short 19 n.natAbs (by omega)
  unfold Lib.itoa
  split
  · simp only [List.length_cons]
    omega
  · have e : n.toNat = n.natAbs := by omega
    rw [e]
    omega
theorem tx_wrap (n : Int) (h : n < 0) (h0 : -9223372036854775808 ≤ n) : IntKind.u64.wrap (-IntKind.u64.wrap n) = (n.natAbs : Int) := by
  simp [IntKind.wrap, IntKind.bits, IntKind.signed]
  omega
end Go.Proofs.YtnlbjknfahhfaaaGreatDoor

/- The reference's small functions of the normal form's writing, walked: a range of lines, a line behind a sign. -/
set_option maxRecDepth 20000
namespace Go.Proofs.YtnlbjknfahhfaaaGreatDoor
open Go.RowKit
attribute [local go_sem] ByteArray.extract_mk no_at

end Go.Proofs.YtnlbjknfahhfaaaGreatDoor

/- The reference's change of the normal form, walked. -/
set_option maxRecDepth 20000
namespace Go.Proofs.YtnlbjknfahhfaaaGreatDoor
open Go.RowKit

/-- two texts can be joined -/
def Fits (x y : List UInt8) : Prop := x.length + y.length ≤ 4611686018427387904
theorem add_fits {x y : List UInt8} (h : Fits x y) (P : Program) (u : World) : (Op.stringOp .add ⟨x.toArray⟩ ⟨y.toArray⟩).run P u = .ok (.string ⟨(x ++ y).toArray⟩) u := by
  unfold Fits at h
  have e : ¬ (((⟨x.toArray⟩ : ByteArray).size + (⟨y.toArray⟩ : ByteArray).size : Nat) : Int) > IntKind.i64.max := by
    have h1 : (⟨x.toArray⟩ : ByteArray).size = x.length := rfl
    have h2 : (⟨y.toArray⟩ : ByteArray).size = y.length := rfl
    have h3 : IntKind.i64.max = 9223372036854775807 := rfl
    rw [h1, h2, h3]
    omega
  unfold Op.stringOp
  dsimp only
  rw [if_neg e, ba_join]
  rfl
/-- a change in a box, and all below it as it was -/
structure Cs (c : Ch) (b : Nat) (W w : World) : Prop where
  c0 : w.cell? ⟨b, 0, none⟩ = some (.int .i64 c.A)
  c1 : w.cell? ⟨b, 1, none⟩ = some (.int .i64 c.AN)
  c2 : w.cell? ⟨b, 2, none⟩ = some (.int .i64 c.B)
  c3 : w.cell? ⟨b, 3, none⟩ = some (.int .i64 c.BN)
  lt : b < w.heap.size
  low : Below W.heap.size W w
theorem Cs.keep {c : Ch} {b : Nat} {W w w' : World} (h : Cs c b W w) (hb : Below w.heap.size w w') : Cs c b W w' := by
  have hk : ∀ o, w'.cell? ⟨b, o, none⟩ = w.cell? ⟨b, o, none⟩ := fun o => by
    unfold World.cell?
    dsimp only
    rw [hb.block b h.lt]
  exact ⟨(hk 0).trans h.c0, (hk 1).trans h.c1, (hk 2).trans h.c2, (hk 3).trans h.c3, Nat.lt_of_lt_of_le h.lt hb.size, h.low.trans (hb.mono h.low.size)⟩
theorem cs_drew (c : Ch) (b : Nat) (W w : World) : Cs c b W w.drew ↔ Cs c b W w := ⟨fun h => ⟨h.c0, h.c1, h.c2, h.c3, h.lt, (h.low.trans ⟨rfl, rfl, rfl, Nat.le_refl _, fun _ _ => rfl⟩ : Below W.heap.size W w)⟩, fun h => ⟨h.c0, h.c1, h.c2, h.c3, h.lt, h.low.drew⟩⟩
attribute [local simp] cs_drew
theorem Cs.fresh (c : Ch) (w : World) : Cs c w.heap.size w (w.alloc (.cells #[.int .i64 c.A, .int .i64 c.AN, .int .i64 c.B, .int .i64 c.BN] 48)) := by
  have h := heap_alloc_new w (.cells #[.int .i64 c.A, .int .i64 c.AN, .int .i64 c.B, .int .i64 c.BN] 48)
  have hk : ∀ o, (w.alloc (.cells #[.int .i64 c.A, .int .i64 c.AN, .int .i64 c.B, .int .i64 c.BN] 48)).cell? ⟨w.heap.size, o, none⟩ = (#[Value.int .i64 c.A, .int .i64 c.AN, .int .i64 c.B, .int .i64 c.BN])[o]? := fun o => by
    unfold World.cell?
    dsimp only
    rw [h]
    rfl
  exact ⟨hk 0, hk 1, hk 2, hk 3, by rw [World.alloc]; simp, (Below.refl _ w).alloc (Nat.le_refl _) _⟩
/-- a call that leaves all below as it was leaves that change, too -/
theorem cs_stay {P : Program} {f : FuncId} {args : Array Value} {v : Value} {w : World} (h : Calls P f args w fun e w' => e = .returned v ∧ Below w.heap.size w w') {c : Ch} {A AN B BN : Int} (hc : Hid (⟨A, AN, B, BN⟩ = c)) (b : Nat) (W : World) (hS : Cs c b W w) :
    Calls P f args w fun e w' => e = .returned v ∧ w'.cell? ⟨b, 0, none⟩ = some (.int .i64 A) ∧ w'.cell? ⟨b, 1, none⟩ = some (.int .i64 AN) ∧ w'.cell? ⟨b, 2, none⟩ = some (.int .i64 B) ∧ w'.cell? ⟨b, 3, none⟩ = some (.int .i64 BN) ∧ Cs c b W w' := by
  have hc2 := hc.out
  subst hc2
  refine h.mono ?_
  rintro e w' ⟨rfl, hb⟩
  have hS' := hS.keep hb
  exact ⟨rfl, hS'.c0, hS'.c1, hS'.c2, hS'.c3, hS'⟩
theorem rng_short (p n : Int) (h0 : 0 ≤ p) (h1 : p ≤ 4611686018427387904) (h2 : 0 ≤ n) (h3 : n ≤ 4611686018427387900) : (rngT p n).length ≤ 43 := by
  have l1 := itoa_short (p + 1) (by omega) (by omega)
  have l2 := itoa_short (p + n) (by omega) (by omega)
  unfold rngT
  split
  · omega
  · simp only [List.length_append, List.length_cons]
    omega
theorem flatM_app {α : Type} (f : α → List (List UInt8)) (x y : List α) : ((x ++ y).flatMap f).flatten = (x.flatMap f).flatten ++ (y.flatMap f).flatten := by simp
/-- one line more -/
theorem cut_more {a : List (List UInt8)} {p n k : Nat} (hk : k < n) (hn : p + n ≤ a.length) : cut a (p : Int) ((k + 1 : Nat) : Int) = cut a p (k : Nat) ++ [a[p + k]'(by omega)] := by
  have h := @cut_cat a (p : Int) (k : Nat) 1 (by omega) (by omega) (by omega)
  have e : cut a ((p : Int) + (k : Nat)) 1 = [a[p + k]'(by omega)] := by
    unfold cut
    have e1 : ((p : Int) + (k : Nat)).toNat = p + k := by omega
    rw [e1, List.drop_eq_getElem_cons (by omega)]
    rfl
  rw [← e, h]
  rfl
theorem cut_pre {a : List (List UInt8)} {p n k : Nat} (hk : k ≤ n) (f : List UInt8 → List (List UInt8)) : ∃ z, ((cut a (p : Int) (n : Nat)).flatMap f).flatten = ((cut a (p : Int) (k : Nat)).flatMap f).flatten ++ z := by
  have h := @cut_cat a (p : Int) (k : Nat) ((n - k : Nat) : Int) (by omega) (by omega) (by omega)
  have e : ((k : Nat) : Int) + ((n - k : Nat) : Int) = (n : Nat) := by omega
  rw [e] at h
  rw [← h, flatM_app]
  exact ⟨_, rfl⟩
end Go.Proofs.YtnlbjknfahhfaaaGreatDoor

/- The reference's Print of the normal form, walked. -/
set_option maxRecDepth 20000
namespace Go.Proofs.YtnlbjknfahhfaaaGreatDoor
open Go.RowKit

theorem prt_more {l : List Ch} {a b : List (List UInt8)} {k : Nat} (hk : k < l.length) : prtT (l.take (k + 1)) a b = prtT (l.take k) a b ++ (chgL a b l[k]).flatten := by
  unfold prtT prtL
  rw [List.take_succ_eq_append_getElem hk, List.flatMap_append, List.flatten_append, List.flatMap_singleton]
theorem prt_pre {l : List Ch} {a b : List (List UInt8)} (k : Nat) : (prtT (l.take k) a b).length ≤ (prtT l a b).length := by
  have e : prtT l a b = prtT (l.take k) a b ++ prtT (l.drop k) a b := by
    unfold prtT prtL
    rw [← List.flatten_append, ← List.flatMap_append, List.take_append_drop]
  rw [e, List.length_append]
  omega
/-- how long what is written is -/
theorem lnL_len (ah s : List UInt8) : (lnL ah s).flatten.length ≤ ah.length + s.length + 29 := by
  unfold lnL
  split <;> simp [markT] <;> omega
theorem lns_len (ah : List UInt8) (x : List (List UInt8)) : (x.flatMap (lnL ah)).flatten.length ≤ x.length * (ah.length + 29) + x.flatten.length := by
  induction x with
  | nil => simp
  | cons s x ih =>
    have h := lnL_len ah s
    simp only [List.flatMap_cons, List.flatten_append, List.length_append, List.length_cons, List.flatten_cons]
    have e : (x.length + 1) * (ah.length + 29) = x.length * (ah.length + 29) + (ah.length + 29) := Nat.succ_mul _ _
    omega
end Go.Proofs.YtnlbjknfahhfaaaGreatDoor

/- How long the normal form of a script is; plain mathematics. -/
set_option maxRecDepth 20000
namespace Go.Proofs.YtnlbjknfahhfaaaGreatDoor

theorem cmd_len {c : Ch} (h : numB c = true) : (cmdT c).length ≤ 100 := by
  rw [numB_iff] at h
  have r1 := rng_short c.A c.AN h.1.1 (by omega) h.2.1.1 (by omega)
  have r2 := rng_short c.B c.BN h.2.2.1.1 (by omega) h.2.2.2.1.1 (by omega)
  have r3 := itoa_short c.A (by omega) (by omega)
  have r4 := itoa_short c.B (by omega) (by omega)
  unfold cmdT
  split
  · simp only [List.length_append, List.length_cons]; omega
  · split
    · simp only [List.length_append, List.length_cons]; omega
    · simp only [List.length_append, List.length_cons]; omega
theorem flat_drop {a : List (List UInt8)} {p A AN : Int} (hp : 0 ≤ p) (hA : p ≤ A) (hN : 0 ≤ AN) : (cut a A AN).flatten.length + (a.drop (A + AN).toNat).flatten.length ≤ (a.drop p.toNat).flatten.length := by
  have e1 : a.drop p.toNat = (a.drop p.toNat).take (A - p).toNat ++ a.drop A.toNat := by
    have h := (List.take_append_drop (A - p).toNat (a.drop p.toNat)).symm
    rw [List.drop_drop] at h
    have e : p.toNat + (A - p).toNat = A.toNat := by omega
    rw [e] at h
    exact h
  have e2 : a.drop A.toNat = cut a A AN ++ a.drop (A + AN).toNat := by
    have h := (List.take_append_drop AN.toNat (a.drop A.toNat)).symm
    rw [List.drop_drop] at h
    have e : A.toNat + AN.toNat = (A + AN).toNat := by omega
    rw [e] at h
    exact h
  rw [e1, e2]
  simp only [List.flatten_append, List.length_append]
  omega
theorem cut_le (a : List (List UInt8)) (p n : Int) : (cut a p n).length ≤ n.toNat := by
  unfold cut
  rw [List.length_take]
  omega
theorem chg_len {a b : List (List UInt8)} {c : Ch} (h : numB c = true) : (chgL a b c).flatten.length ≤ 105 + 31 * (c.AN.toNat + c.BN.toNat) + (cut a c.A c.AN).flatten.length + (cut b c.B c.BN).flatten.length := by
  have h1 := cmd_len h
  have h2 := lns_len [60, 32] (cut a c.A c.AN)
  have h3 := lns_len [62, 32] (cut b c.B c.BN)
  have h4 := cut_le a c.A c.AN
  have h5 := cut_le b c.B c.BN
  have h6 : (sepL c).flatten.length ≤ 4 := by
    unfold sepL
    split <;> simp
  simp only [List.length_cons, List.length_nil] at h2 h3
  simp only [chgL, List.flatten_cons, List.flatten_append, List.length_append, List.length_cons, List.length_nil]
  omega
theorem prt_len_at {a b : List (List UInt8)} {n m : Int} (l : List Ch) : ∀ {f : Bool} {p q : Int}, 0 ≤ p → 0 ≤ q → Right f p q n m l → (prtT l a b).length ≤ 105 * l.length + 31 * ((n - p).toNat + (m - q).toNat) + (a.drop p.toNat).flatten.length + (b.drop q.toNat).flatten.length := by
  induction l with
  | nil =>
    intro f p q _ _ _
    simp [prtT, prtL]
  | cons c l ih =>
    intro f p q hp hq h
    obtain ⟨⟨h1, h2, h3, _⟩, h5⟩ := h
    have hn := (numB_iff c).1 h1
    have hle := h5.le
    have g := ih (by omega) (by omega) h5
    have g1 := @chg_len a b c h1
    have g2 := @flat_drop a p c.A c.AN hp h3 hn.2.1.1
    have g3 := @flat_drop b q c.B c.BN hq (by omega) hn.2.2.2.1.1
    have e : prtT (c :: l) a b = (chgL a b c).flatten ++ prtT l a b := by simp [prtT, prtL]
    rw [e, List.length_append, List.length_cons]
    omega
/-- what is written of a right script -/
theorem prt_len {a b : List (List UInt8)} {l : List Ch} (h : Script l a.length b.length) : (prtT l a b).length ≤ 105 * l.length + 31 * (a.length + b.length) + a.flatten.length + b.flatten.length := by
  have g := @prt_len_at a b a.length b.length l true 0 0 (by omega) (by omega) h.2.2
  simpa using g
end Go.Proofs.YtnlbjknfahhfaaaGreatDoor

/- The library's contracts on a strings.Builder's WriteString and on strings.HasSuffix, TrimSuffix and CutPrefix at this program: the program bears the bodies that they speak of. -/
set_option maxRecDepth 20000
namespace Go.Proofs
open Go.Shelf Go.RowKit
def Tryz.lays166_ren : Go.Shelf.Ren := ⟨fun | 166 => 24 | 240 => 46 | 276 => 76 | n => n, fun | 0 => 0 | 3 => 3 | 4 => 4 | 5 => 5 | 9 => 9 | 20 => 20 | 37 => 60 | 70 => 59 | 72 => 62 | 75 => 35 | 80 => 71 | 164 => 113 | n => n, fun | n => n⟩
theorem Tryz.lays166 : Go.Proofs.Lays.n166 Tryz.prog Tryz.lays166_ren := {
  mixed := by kernel_rfl
  f166 := Tryz.func24.trans (congrArg some (by kernel_rfl))
  f240 := Tryz.func46.trans (congrArg some (by kernel_rfl))
  f276 := Tryz.func76.trans (congrArg some (by kernel_rfl))
  t0 := Tryz.underlying0
  a0 := Tryz.isAgg0
  z0 := Tryz.sizeOf0
  v0 := Tryz.zeroValue0
  t3 := Tryz.underlying3
  a3 := Tryz.isAgg3
  z3 := Tryz.sizeOf3
  v3 := Tryz.zeroValue3
  t4 := Tryz.underlying4
  a4 := Tryz.isAgg4
  z4 := Tryz.sizeOf4
  v4 := Tryz.zeroValue4
  t9 := Tryz.underlying9
  a9 := Tryz.isAgg9
  z9 := Tryz.sizeOf9
  v9 := Tryz.zeroValue9
  t20 := Tryz.underlying20
  a20 := Tryz.isAgg20
  z20 := Tryz.sizeOf20
  v20 := Tryz.zeroValue20
  t37 := Tryz.underlying60
  a37 := Tryz.isAgg60
  z37 := Tryz.sizeOf60
  v37 := Tryz.zeroValue60
  t70 := Tryz.underlying59
  a70 := Tryz.isAgg59
  z70 := Tryz.sizeOf59
  v70 := Tryz.zeroValue59
  t72 := Tryz.underlying62
  a72 := Tryz.isAgg62
  z72 := Tryz.sizeOf62
  v72 := Tryz.zeroValue62
  t75 := Tryz.underlying35
  a75 := Tryz.isAgg35
  z75 := Tryz.sizeOf35
  v75 := Tryz.zeroValue35
  t164 := Tryz.underlying113
  a164 := Tryz.isAgg113
  z164 := Tryz.sizeOf113
  v164 := Tryz.zeroValue113 }
theorem Tryz.Builder_Extra_166 : Builder.Extra Tryz.prog Tryz.lays166_ren := {
  sizeBuilder := by kernel_rfl
  liesBuilder := by kernel_rfl
  t5 := Tryz.underlying5
  a5 := Tryz.isAgg5
  z5 := Tryz.sizeOf5
  v5 := Tryz.zeroValue5
  infoByte := by kernel_rfl
  cellsByte := by kernel_rfl
  sizeByte := by kernel_rfl
  neB5 := by decide }
theorem Tryz.WriteString_h (B b : Nat) (bs : List Value) (s : ByteArray) (w : World) (h : Lib.IsBuilderF 62 5 B b bs w) (hlen : bs.length + s.size ≤ 140737488355328) (hBw : B ≤ w.heap.size) :
    Calls Tryz.prog 24 #[.pointer (some ⟨b, 0, none⟩), .string s] w fun e w' => e = .returned (.tuple #[.int .i64 s.size, .nilIface]) ∧ (Lib.BuilderAtF 62 5 B b (.pointer (some ⟨b, 0, none⟩)) (bs ++ Lib.strCells s) w' ∧ Below B w w' ∧ Lib.OthersKept 5 (some b) w w') :=
  Any.Builder_WriteString_k Tryz.lays166 Tryz.Builder_Extra_166 B b bs s w h hlen hBw
end Go.Proofs

/- The code's small functions of layer 12's Print, walked: numbers, ranges, letters, lines that are written. -/
set_option maxRecDepth 20000
namespace Go.Proofs.YtnlbjknfahhfaaaGreatDoor
open Go.RowKit

/-- the table of powers of ten, in every later world -/
def Tab10 (w : World) : Prop := ∀ u : World, Below w.heap.size w u → Lib.TabIs Tryz.prog u "internal/strconv.uint64pow10" .u64 Lib.pow10Tab
theorem Tab10.on {w u : World} (h : Tab10 w) (hb : Below w.heap.size w u) : Tab10 u := fun v hv => h v (hb.trans (hv.mono hb.size))
set_option maxHeartbeats 1000000 in
theorem nText_f (n : Int) (h0 : -9223372036854775808 ≤ n) (h1 : n ≤ 9223372036854775807) (w : World) (HT : Hid (Tab10 w)) :
    Calls Tryz.prog 47 #[.int .i64 n] w fun e w' => e = .returned (.string ⟨(Lib.itoa n).toArray⟩) ∧ Below w.heap.size w w' := by
  go_enter Tryz.func47, Tryz.ntmps47
  go_wp2_with fail
  refine (Tryz.strconv_Itoa n h0 h1 _ (HT.out _ (Below.refl _ _))).mono ?_
  rintro e w1 ⟨rfl, k, os, rfl⟩
  go_wp2
  go_ret
  exact ⟨rfl, Lib.below_grow w.heap.size w (Nat.le_refl _) k os⟩
/-- a range as the code writes it -/
def rgx (A N : Int) : List UInt8 := if N ≤ 1 then Lib.itoa A else Lib.itoa A ++ 44 :: Lib.itoa (A + N - 1)
theorem rgx_len {A N : Int} (h0 : 0 ≤ A) (h1 : A ≤ 4611686018427387904) (h2 : 0 ≤ N) (h3 : N ≤ 4611686018427387900) : (rgx A N).length ≤ 43 := by
  have l1 := itoa_short A (by omega) (by omega)
  have l2 := itoa_short (A + N - 1) (by omega) (by omega)
  unfold rgx
  split
  · omega
  · simp only [List.length_append, List.length_cons]
    omega
/-- what a hunk does, as the code writes it -/
def ltrT (AN BN : Int) : List UInt8 := if AN = 0 then [97] else if BN = 0 then [100] else [99]
theorem ltr_len (AN BN : Int) : (ltrT AN BN).length = 1 := by
  unfold ltrT
  split
  · rfl
  · split <;> rfl
end Go.Proofs.YtnlbjknfahhfaaaGreatDoor

/- The code's writeLines of layer 12, walked: lines behind a sign are written into a builder. -/
set_option maxRecDepth 20000
namespace Go.Proofs.YtnlbjknfahhfaaaGreatDoor
open Go.RowKit

theorem bcells_len (l : List UInt8) : (Lib.byteCells l).length = l.length := by simp [Lib.byteCells]
theorem suf_feed (s : List UInt8) : Lib.hasSuffix s [10] = fdB s := by
  unfold Lib.hasSuffix fdB
  rw [Bool.eq_iff_iff, List.isSuffixOf_iff_suffix, beq_iff_eq]
  constructor
  · rintro ⟨t, rfl⟩
    simp
  · intro h
    obtain ⟨t, rfl⟩ := List.getLast?_eq_some_iff.1 h
    exact ⟨t, rfl⟩
/-- a builder stays as it is where all ahead stays -/
theorem isF_low {T e : TypeId} {B b : Nat} {bs : List Value} {w w' : World} (h : Lib.IsBuilderF T e B b bs w) (hb : Below w.heap.size w w') : Lib.IsBuilderF T e B b bs w' := by
  have key : ∀ p, Lib.BuilderAtF T e B b p bs w → Lib.BuilderAtF T e B b p bs w' := by
    rintro p ⟨h1, v, h2, h3, h4⟩
    refine ⟨h1, v, (hb.block b (Array.getElem?_eq_some_iff.1 h2).1).trans h2, ⟨h3.1, ?_⟩, h4⟩
    rcases h3.2 with q | ⟨g, cap, cur, fz, q1, q2, q3, q4⟩
    · exact .inl q
    · exact .inr ⟨g, cap, cur, fz, q1, q2, (hb.block g (Array.getElem?_eq_some_iff.1 q3).1).trans q3, q4⟩
  rcases h with h | h
  · exact .inl (key _ h)
  · exact .inr (key _ h)
theorem isF_fresh (w : World) : Lib.IsBuilderF 62 5 w.heap.size w.heap.size (Lib.byteCells []) (w.alloc (.cells #[.pointer none, .slice none 0 0] 62)) :=
  .inl ⟨Nat.le_refl _, .slice none 0 0, heap_alloc_new w _, ⟨rfl, .inl ⟨rfl, rfl⟩⟩, by simp [Value.ownBlock]⟩
/-- a row of texts of one's own stays where a builder is written -/
theorem owns_others {w u : World} {base b : Nat} {v : Value} {n : Nat} {xs : List Value} (h : w.ownsRow base 9 1 v n xs) (hk : Lib.OthersKept 5 (some b) w u) (hb : ∀ g, v.ownBlock = some g → g ≠ b) : u.ownsRow base 9 1 v n xs := by
  refine ⟨h.1, ?_⟩
  rcases h.2 with q | ⟨g, cap, cur, rfl, q2, q3, q4⟩
  · exact .inl q
  · refine .inr ⟨g, cap, cur, rfl, q2, hk g _ q3 (fun e => hb g rfl (Option.some.inj e)) (fun c fz e => ?_), q4⟩
    cases e
end Go.Proofs.YtnlbjknfahhfaaaGreatDoor

/- The code's small functions of layer 13's Print, walked: a line without its line feed, ranges, commands, lines that are written. -/
set_option maxRecDepth 20000
namespace Go.Proofs.YtnlbjknfahhfaaaGreatDoor
open Go.RowKit

theorem trim_bare (s : List UInt8) : Lib.trimSuffix s [10] = bareT s := by
  unfold Lib.trimSuffix bareT
  rw [suf_feed, List.dropLast_eq_take]
  rfl
set_option maxHeartbeats 400000 in
theorem lBare_f (l : List UInt8) (w : World) (hl : l.length ≤ 9223372036854775807) :
    Calls Tryz.prog 14 #[.string ⟨l.toArray⟩] w fun e w' => e = .returned (.tuple #[.string ⟨(bareT l).toArray⟩, .bool (fdB l)]) ∧ w = w' := by
  go_enter Tryz.func14, Tryz.ntmps14
  go_wp2_with fail
  refine (Tryz.strings_CutSuffix ⟨l.toArray⟩ ⟨#[10]⟩ _ hl).mono ?_
  rintro e w1 ⟨rfl, rfl⟩
  go_wp2
  go_ret2
  rw [← trim_bare, ← suf_feed]
  exact ⟨rfl, rfl⟩
set_option maxHeartbeats 1000000 in
theorem erange_f (p n : Int) (h0 : 0 ≤ p) (h1 : p ≤ 4611686018427387904) (h2 : 1 ≤ n) (h3 : n ≤ 4611686018427387900) (w : World) (HT : Hid (Tab10 w)) (T : List UInt8) (HR : Hid (rngT p n = T)) :
    Calls Tryz.prog 48 #[.int .i64 (p + 1), .int .i64 (p + n)] w fun e w' => e = .returned (.string ⟨T.toArray⟩) ∧ Below w.heap.size w w' := by
  have l1 := itoa_short (p + 1) (by omega) (by omega)
  have l2 := itoa_short (p + n) (by omega) (by omega)
  by_cases hN : n = 1
  · have HE1 : Hid (Lib.itoa (p + 1) = T) := (by have h := HR.out; unfold rngT at h; rw [if_pos hN] at h; exact h)
    have e1 : (p + 1 == p + n) = true := by rw [hN]; simp
    clear HR hN
    go_enter Tryz.func48, Tryz.ntmps48
    go_wp2_with fail
    refine (nText_f (p + 1) (by omega) (by omega) _ HT).mono ?_
    rintro e w1 ⟨rfl, hb1⟩
    go_wp2
    go_ret
    exact ⟨by rw [← HE1.out]; rfl, hb1⟩
  · have HE : Hid (Lib.itoa (p + 1) ++ 44 :: Lib.itoa (p + n) = T) := (by have h := HR.out; unfold rngT at h; rw [if_neg hN] at h; exact h)
    have e1 : (p + 1 == p + n) = false := beq_eq_false_iff_ne.2 (by omega)
    clear HR hN
    have q1 := add_fits (x := Lib.itoa (p + 1)) (y := [44]) (by unfold Fits; simp only [List.length_cons, List.length_nil]; omega) Tryz.prog
    have q2 := add_fits (x := Lib.itoa (p + 1) ++ [44]) (y := Lib.itoa (p + n)) (by unfold Fits; simp only [List.length_append, List.length_cons, List.length_nil]; omega) Tryz.prog
    go_enter Tryz.func48, Tryz.ntmps48
    go_wp2_with fail
    refine (nText_f (p + 1) (by omega) (by omega) _ HT).mono ?_
    rintro e w1 ⟨rfl, hb1⟩
    have HT1 : Hid (Tab10 w1) := HT.out.on hb1
    go_wp2_with fail
    refine (nText_f (p + n) (by omega) (by omega) _ HT1).mono ?_
    rintro e w2 ⟨rfl, hb2⟩
    go_wp2
    go_ret
    exact ⟨by rw [← HE.out]; simp, hb1.trans (hb2.mono hb1.size)⟩
theorem edC_len {c : Ch} (h0 : 0 ≤ c.A) (h1 : c.A ≤ 2147483647) (h2 : 0 ≤ c.AN) (h3 : c.AN ≤ 2147483647) : (edC c).length ≤ 44 := by
  have r1 := rng_short c.A c.AN (by omega) (by omega) (by omega) (by omega)
  have r3 := itoa_short c.A (by omega) (by omega)
  unfold edC
  split
  · simp only [List.length_append, List.length_cons, List.length_nil]; omega
  · split <;> (simp only [List.length_append, List.length_cons, List.length_nil]; omega)
set_option maxHeartbeats 1000000 in
theorem cmdOf_f (c : Ch) (hA : 0 ≤ c.A ∧ c.A ≤ 2147483647 ∧ 0 ≤ c.AN ∧ c.AN ≤ 2147483647) (w : World) (HT : Hid (Tab10 w)) (T : List UInt8) (HR : Hid (edC c = T)) :
    Calls Tryz.prog 25 #[chV c] w fun e w' => e = .returned (.string ⟨T.toArray⟩) ∧ Below w.heap.size w w' := by
  have hbx := Cs.fresh c w
  have r1 := rng_short c.A c.AN (by omega) (by omega) (by omega) (by omega)
  have r3 := itoa_short c.A (by omega) (by omega)
  obtain ⟨A, AN, B, BN⟩ := c
  have d0 := hbx.c0
  have d1 := hbx.c1
  have d3 := hbx.c3
  dsimp only at d0 d1 d3 hA r1 r3
  have hlow := hbx.low
  have HT1 : Hid (Tab10 (w.alloc (.cells #[.int .i64 A, .int .i64 AN, .int .i64 B, .int .i64 BN] 48))) := HT.out.on hlow
  clear hbx
  unfold chV
  dsimp only
  by_cases h1 : AN = 0
  · have e1 : (AN == 0) = true := by rw [h1]; rfl
    have HE : Hid (Lib.itoa A ++ [97] = T) := (by have h := HR.out; unfold edC at h; rw [if_pos h1] at h; exact h)
    clear HR h1
    have q1 := add_fits (x := Lib.itoa A) (y := [97]) (by unfold Fits; simp only [List.length_cons, List.length_nil]; omega) Tryz.prog
    go_enter Tryz.func25, Tryz.ntmps25
    go_wp2_with fail
    refine (nText_f A (by omega) (by omega) _ HT1).mono ?_
    rintro e w1 ⟨rfl, hb1⟩
    go_wp2
    go_ret
    exact ⟨by rw [← HE.out]; rfl, hlow.trans (hb1.mono hlow.size)⟩
  · have e1 : (AN == 0) = false := beq_eq_false_iff_ne.2 h1
    obtain ⟨R, HRR⟩ : ∃ R, Hid (rngT A AN = R) := ⟨_, rfl⟩
    have hRl : R.length ≤ 43 := by rw [← HRR.out]; exact r1
    by_cases h2 : BN = 0
    · have e2 : (BN == 0) = true := by rw [h2]; rfl
      have HE : Hid (R ++ [100] = T) := (by have h := HR.out; unfold edC at h; rw [if_neg h1, if_pos h2] at h; rw [← HRR.out]; exact h)
      clear HR h2
      have q1 := add_fits (x := R) (y := [100]) (by unfold Fits; simp only [List.length_cons, List.length_nil]; omega) Tryz.prog
      go_enter Tryz.func25, Tryz.ntmps25
      go_wp2_with fail
      refine (erange_f A AN (by omega) (by omega) (by omega) (by omega) _ HT1 R HRR).mono ?_
      rintro e w1 ⟨rfl, hb1⟩
      go_wp2
      go_ret
      exact ⟨by rw [← HE.out]; rfl, hlow.trans (hb1.mono hlow.size)⟩
    · have e2 : (BN == 0) = false := beq_eq_false_iff_ne.2 h2
      have HE : Hid (R ++ [99] = T) := (by have h := HR.out; unfold edC at h; rw [if_neg h1, if_neg h2] at h; rw [← HRR.out]; exact h)
      clear HR h2
      have q1 := add_fits (x := R) (y := [99]) (by unfold Fits; simp only [List.length_cons, List.length_nil]; omega) Tryz.prog
      go_enter Tryz.func25, Tryz.ntmps25
      go_wp2_with fail
      refine (erange_f A AN (by omega) (by omega) (by omega) (by omega) _ HT1 R HRR).mono ?_
      rintro e w1 ⟨rfl, hb1⟩
      go_wp2
      go_ret
      exact ⟨by rw [← HE.out]; rfl, hlow.trans (hb1.mono hlow.size)⟩
/-- what a builder holds, what is written behind it -/
theorem ews_f (B b : Nat) (acc s : List UInt8) (w : World) (hB : Lib.IsBuilderF 62 5 B b (Lib.byteCells acc) w) (hBw : B ≤ w.heap.size) (hl : acc.length + s.length ≤ 140737488355328) :
    Calls Tryz.prog 24 #[.pointer (some ⟨b, 0, none⟩), .string ⟨s.toArray⟩] w fun e w' => e = .returned (.tuple #[.int .i64 (s.length : Int), .nilIface]) ∧ Lib.IsBuilderF 62 5 B b (Lib.byteCells (acc ++ s)) w' ∧ Below B w w' ∧ Lib.OthersKept 5 (some b) w w' := by
  refine (Tryz.WriteString_h B b _ ⟨s.toArray⟩ w hB (by rw [bcells_len]; exact hl) hBw).mono ?_
  rintro e w' ⟨rfl, h1, h2, h3⟩
  exact ⟨rfl, .inr (by rw [Lib.byteCells_append]; exact h1), h2, h3⟩
def dotT (last : Bool) : List UInt8 := [46, 46, 10, 46, 10, 115, 47, 46, 47, 47, 10] ++ if last = true then [] else [97, 10]
set_option maxHeartbeats 1000000 in
theorem wDot_f (B b : Nat) (acc : List UInt8) (last : Bool) (w : World) (hB : Lib.IsBuilderF 62 5 B b (Lib.byteCells acc) w) (hBw : B ≤ w.heap.size) (hl : acc.length ≤ 70368744177664) :
    Calls Tryz.prog 49 #[.pointer (some ⟨b, 0, none⟩), .bool last] w fun e w' => e = .returned (.tuple #[]) ∧ Lib.IsBuilderF 62 5 B b (Lib.byteCells (acc ++ dotT last)) w' ∧ Below B w w' ∧ Lib.OthersKept 5 (some b) w w' := by
  go_enter Tryz.func49, Tryz.ntmps49
  go_wp2_with fail
  refine (ews_f B b acc [46, 46, 10, 46, 10, 115, 47, 46, 47, 47, 10] w hB hBw (by simp only [List.length_cons, List.length_nil]; omega)).mono ?_
  rintro e w1 ⟨rfl, hB1, hb1, ho1⟩
  cases last with
  | true =>
    go_wp2
    first
      | go_end0
      | refine bodyPost_ret (results_none rfl _ _ _) rfl ?_
      | refine bodyPost_end (results_none rfl _ _ _) rfl ?_
    exact ⟨rfl, hB1, hb1, ho1⟩
  | false =>
    go_wp2_with fail
    refine (ews_f B b _ [97, 10] w1 hB1 (Nat.le_trans hBw hb1.size) (by simp only [List.length_append, List.length_cons, List.length_nil]; omega)).mono ?_
    rintro e w2 ⟨rfl, hB2, hb2, ho2⟩
    go_wp2
    first
      | go_end0
      | refine bodyPost_ret (results_none rfl _ _ _) rfl ?_
      | refine bodyPost_end (results_none rfl _ _ _) rfl ?_
    exact ⟨rfl, by rw [List.append_assoc] at hB2; exact hB2, hb1.trans hb2, ho1.trans ho2⟩
/-- what the code writes of one line -/
def wr1 (s : List UInt8) (last : Bool) : List UInt8 := if bareT s = [46] then dotT last else if last = true then bareT s ++ [10, 46, 10] else bareT s ++ [10]
theorem wrF_step (x : List (List UInt8)) (k : Nat) (h : k < x.length) : (wrF (x.drop k)).flatten = wr1 x[k] (decide (k + 1 = x.length)) ++ (wrF (x.drop (k + 1))).flatten := by
  rw [List.drop_eq_getElem_cons h, wrF]
  have e : (x.drop (k + 1)).length = 0 ↔ k + 1 = x.length := by rw [List.length_drop]; omega
  unfold wr1 dotT
  by_cases hq : k + 1 = x.length
  · rw [decide_eq_true hq]
    by_cases hd : bareT x[k] = [46]
    · simp [hd, e.2 hq, dotsL, shL]
    · simp [hd, e.2 hq]
  · rw [decide_eq_false hq]
    have h0 : ¬ (x.drop (k + 1)).length = 0 := fun q => hq (e.1 q)
    by_cases hd : bareT x[k] = [46]
    · rw [if_pos hd, if_pos hd, if_neg h0]
      simp [dotsL, shL]
    · rw [if_neg hd, if_neg hd, if_neg h0]
      simp
set_option maxHeartbeats 4000000 in
theorem wText_f (B b : Nat) (acc : List UInt8) (x : List (List UInt8)) (v : Value) (w : World) (hB : Lib.IsBuilderF 62 5 B b (Lib.byteCells acc) w) (hBw : B ≤ w.heap.size)
    (hv : ∃ vo vc, v = .slice vo x.length vc) (HV : Hid (∀ u, Lib.OthersKept 5 (some b) w u → Below B w u → HS u v x)) (hxl : x.length ≤ 1099511627776) (HTX : Hid (∀ s ∈ x, s.length ≤ 1099511627776)) (Z : List UInt8) (HZ : Hid (acc ++ (wrF x).flatten = Z)) (hZ : Z.length ≤ 70368744177664) :
    Calls Tryz.prog 26 #[.pointer (some ⟨b, 0, none⟩), v] w fun e w' => e = .returned (.tuple #[]) ∧ Lib.IsBuilderF 62 5 B b (Lib.byteCells Z) w' ∧ Below B w w' ∧ Lib.OthersKept 5 (some b) w w' := by
  obtain ⟨vo, vc, rfl⟩ := hv
  go_enter Tryz.func26, Tryz.ntmps26
  go_wp2
  go_loopw [11] (fun i wr => ∃ (k : Nat) (ac : List UInt8), k ≤ x.length ∧ i = .int .i64 (k : Int) ∧ Lib.IsBuilderF 62 5 B b (Lib.byteCells ac) wr ∧ Below B w wr ∧ Lib.OthersKept 5 (some b) w wr ∧ Hid (ac ++ (wrF (x.drop k)).flatten = Z)) (fun i _ => x.length - (intOf i).toNat)
  case atStart => exact ⟨0, acc, Nat.zero_le _, by go_num, hB, Below.refl _ _, Lib.OthersKept.refl _ _ _, HZ⟩
  case round =>
    obtain ⟨k, ac, hk, rfl, hBr, hbr, hor, HI⟩ := hrel
    have hbz : B ≤ wr.heap.size := Nat.le_trans hBw hbr.size
    have hacl : ac.length ≤ 70368744177664 := (by
      have h1 := congrArg List.length HI.out
      rw [List.length_append] at h1
      omega)
    by_cases hlt : k < x.length
    · obtain ⟨bk, off, rfl, hbk, hcl⟩ := HS.at (HV.out wr hor hbr) (by omega)
      have c0 := hcl k hlt
      have hsl := HTX.out x[k] (List.getElem_mem _)
      have HE : Hid (ac ++ wr1 x[k] (decide (k + 1 = x.length)) ++ (wrF (x.drop (k + 1))).flatten = Z) := (by
        show _ = _
        rw [← HI.out, wrF_step x k hlt, List.append_assoc])
      obtain ⟨s, hs⟩ : ∃ s, x[k] = s := ⟨_, rfl⟩
      rw [hs] at c0 hsl HE
      clear hcl hs HI HV HTX HZ
      have hbl : (bareT s).length ≤ s.length := (by
        unfold bareT
        split
        · rw [List.length_dropLast]; omega
        · exact Nat.le_refl _)
      have i1 : 0 ≤ (k : Int) := by omega
      have i2 : (k : Int) < (x.length : Int) := by omega
      go_wp2_with fail
      refine (lBare_f s _ (by omega)).mono ?_
      rintro e w1 ⟨rfl, rfl⟩
      obtain ⟨t, ht⟩ : ∃ t, bareT s = t := ⟨_, rfl⟩
      have HW : Hid (wr1 s (decide (k + 1 = x.length)) = if t = [46] then dotT (decide (k + 1 = x.length)) else if decide (k + 1 = x.length) = true then t ++ [10, 46, 10] else t ++ [10]) := (by
        show _ = _
        rw [← ht]
        rfl)
      rw [ht] at hbl ⊢
      clear ht
      have hq1 : ((k : Int) == (x.length : Int) - 1) = decide (k + 1 = x.length) := (by
        by_cases hq : k + 1 = x.length
        · rw [decide_eq_true hq, beq_iff_eq]; omega
        · rw [decide_eq_false hq, beq_eq_false_iff_ne]; omega)
      obtain ⟨lst, hlst⟩ : ∃ lst, decide (k + 1 = x.length) = lst := ⟨_, rfl⟩
      rw [hlst] at hq1 HE HW
      clear hlst
      by_cases hd : t = [46]
      · subst hd
        have HE2 : Hid (ac ++ dotT lst ++ (wrF (x.drop (k + 1))).flatten = Z) := (by
          show _ = _
          rw [← HE.out, HW.out, if_pos rfl])
        clear HE HW
        go_wp2_with fail
        refine (wDot_f B b ac lst wr hBr hbz (by omega)).mono ?_
        rintro e w2 ⟨rfl, hB2, hb2, ho2⟩
        go_wp2
        exact ⟨⟨k + 1, _, by omega, by go_num, hB2, hbr.trans hb2, hor.trans ho2, HE2⟩, by simp [intOf]; omega⟩
      · have hdb : (t == [46]) = false := beq_eq_false_iff_ne.2 hd
        cases lst with
        | true =>
          have HE2 : Hid (ac ++ (t ++ [10, 46, 10]) ++ (wrF (x.drop (k + 1))).flatten = Z) := (by
            show _ = _
            rw [← HE.out, HW.out, if_neg hd, if_pos rfl])
          clear HE HW hd
          have q1 := add_fits (x := t) (y := [10]) (by unfold Fits; simp only [List.length_cons, List.length_nil]; omega) Tryz.prog
          have q2 := add_fits (x := t ++ [10]) (y := [46]) (by unfold Fits; simp only [List.length_append, List.length_cons, List.length_nil]; omega) Tryz.prog
          have q3 := add_fits (x := t ++ [10, 46]) (y := [10]) (by unfold Fits; simp only [List.length_append, List.length_cons, List.length_nil]; omega) Tryz.prog
          go_wp2_with fail
          refine (ews_f B b ac (t ++ [10, 46, 10]) wr hBr hbz (by simp only [List.length_append, List.length_cons, List.length_nil]; omega)).mono ?_
          rintro e w2 ⟨rfl, hB2, hb2, ho2⟩
          go_wp2
          exact ⟨⟨k + 1, _, by omega, by go_num, hB2, hbr.trans hb2, hor.trans ho2, HE2⟩, by simp [intOf]; omega⟩
        | false =>
          have HE2 : Hid (ac ++ (t ++ [10]) ++ (wrF (x.drop (k + 1))).flatten = Z) := (by
            show _ = _
            rw [← HE.out, HW.out, if_neg hd, if_neg (by decide)])
          clear HE HW hd
          have q1 := add_fits (x := t) (y := [10]) (by unfold Fits; simp only [List.length_cons, List.length_nil]; omega) Tryz.prog
          go_wp2_with fail
          refine (ews_f B b ac (t ++ [10]) wr hBr hbz (by simp only [List.length_append, List.length_cons, List.length_nil]; omega)).mono ?_
          rintro e w2 ⟨rfl, hB2, hb2, ho2⟩
          go_wp2
          exact ⟨⟨k + 1, _, by omega, by go_num, hB2, hbr.trans hb2, hor.trans ho2, HE2⟩, by simp [intOf]; omega⟩
    · have HE : Hid (ac = Z) := (by
        have h := HI.out
        rw [List.drop_of_length_le (by omega)] at h
        show ac = Z
        simpa [wrF] using h)
      have hend : decide ((k : Int) < (x.length : Int)) = false := decide_eq_false (by omega)
      clear HI
      go_wp2
      first
        | go_end0
        | refine bodyPost_ret (results_none rfl _ _ _) rfl ?_
        | refine bodyPost_end (results_none rfl _ _ _) rfl ?_
      exact ⟨rfl, by rw [← HE.out]; exact hBr, hbr, hor⟩
set_option maxHeartbeats 1000000 in
theorem lacks_f (b : List (List UInt8)) (v : Value) (w : World) (hb : HS w v b) (hlb : b.length ≤ 1099511627776) (HTB : Hid (∀ s ∈ b, s.length ≤ 1099511627776)) :
    Calls Tryz.prog 27 #[v] w fun e w' => e = .returned (.bool (lkB b)) ∧ w = w' := by
  obtain ⟨bo, cb, rfl⟩ := Holds.form hb
  by_cases h0 : 0 < b.length
  · obtain ⟨bk, off, rfl, hbk, hcl⟩ := HS.at hb h0
    have c0 := hcl (b.length - 1) (by omega)
    obtain ⟨s, hs⟩ : ∃ s, b[b.length - 1] = s := ⟨_, rfl⟩
    have hsl := HTB.out b[b.length - 1] (List.getElem_mem _)
    have hlk : lkB b = !fdB s := (by
      unfold lkB
      rw [List.getLast?_eq_getElem?, List.getElem?_eq_getElem (by omega), hs])
    rw [hs] at c0 hsl
    rw [hlk]
    clear hcl hs hlk
    have i0 : ((b.length : Int) == 0) = false := beq_eq_false_iff_ne.2 (by omega)
    have i1 : 0 ≤ (b.length : Int) - 1 := by omega
    have i2 : (b.length : Int) - 1 < (b.length : Int) := by omega
    have i3 : ((b.length : Int) - 1).toNat = b.length - 1 := by omega
    go_enter Tryz.func27, Tryz.ntmps27
    go_wp2_with fail
    refine (lBare_f s _ (by omega)).mono ?_
    rintro e w2 ⟨rfl, rfl⟩
    go_wp2
    go_ret
    exact ⟨rfl, rfl⟩
  · have e : b = [] := List.eq_nil_of_length_eq_zero (by omega)
    subst e
    go_enter Tryz.func27, Tryz.ntmps27
    go_wp2
    go_ret
    exact ⟨rfl, rfl⟩
end Go.Proofs.YtnlbjknfahhfaaaGreatDoor
