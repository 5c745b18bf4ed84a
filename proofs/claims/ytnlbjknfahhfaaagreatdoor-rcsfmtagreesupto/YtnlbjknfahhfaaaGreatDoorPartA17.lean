/-
  Texts that belong together, joined: NoM3, NoM4, RcMath, NoB, RcRj, NoJn, NoTx, NoRf, NoCg, RcRp, NoPr, NoLen, NoWs, NcW, NcL, EfJo.
-/
import Derived.Test.YtnlbjknfahhfaaaGreatDoorPartA16
import Derived.Test.YtnlbjknfahhfaaaGreatDoorPartA3
import Derived.Test.YtnlbjknfahhfaaaGreatDoorPartA5
import Derived.Lib.AppendStr
import Derived.BigQuiet
import Derived.Lib.ItoaNum
import Derived.Laws.IdiomStrings
import Derived.Deep.RegionHeld3
import Derived.Deep.CutBlock
import Derived.Deep.DeepCutAuto
import Derived.Shelf.Strings.BuilderK
import Derived.Test.YtnlbjknfahhfaaaGreatDoorProg
import Derived.Test.YtnlbjknfahhfaaaGreatDoorPartA6
import Derived.Lib.AppendIntMem
import Derived.Lib.FrozenHead2

/- The normal form of an edit script: read again it is the hunks without context; a part of it is never read as the whole; plain mathematics. -/
set_option maxRecDepth 20000
namespace Go.Proofs.YtnlbjknfahhfaaaGreatDoor
open Ln

theorem rows_of {a : List (List UInt8)} (h : checkB a = true) : Rows a := by
  induction a with
  | nil => trivial
  | cons s t ih =>
    simp only [checkB, Bool.and_eq_true] at h
    have h1 := h.1
    rw [lineB_eq] at h1
    simp only [Bool.and_eq_true, Bool.or_eq_true] at h1
    refine ⟨h1.1, fun hne => ?_, ih h.2⟩
    rcases h1.2 with h2 | h2
    · cases t with
      | nil => exact absurd rfl hne
      | cons => cases h2
    · exact h2
theorem rows_drop {a : List (List UInt8)} (n : Nat) (h : Rows a) : Rows (a.drop n) := by
  induction n generalizing a with
  | zero => exact h
  | succ n ih =>
    cases a with
    | nil => trivial
    | cons s t => exact ih h.2.2
theorem rows_take {a : List (List UInt8)} (n : Nat) (h : Rows a) : Rows (a.take n) := by
  induction n generalizing a with
  | zero => trivial
  | succ n ih =>
    cases a with
    | nil => trivial
    | cons s t =>
      refine ⟨h.1, fun hne => h.2.1 fun e => ?_, ih h.2.2⟩
      subst e
      simp at hne
theorem rows_cut {a : List (List UInt8)} (h : checkB a = true) (p n : Int) : Rows (cut a p n) := rows_take _ (rows_drop _ (rows_of h))
theorem rows_lin {a : List (List UInt8)} (h : Rows a) : ∀ x ∈ a, linB x = true := by
  induction a with
  | nil => intro x hx; cases hx
  | cons s t ih =>
    intro x hx
    rcases List.mem_cons.1 hx with rfl | hx
    · exact h.1
    · exact ih h.2.2 x hx
theorem npk_mks {no sg : Int} (t : List (List UInt8)) : pkL no (mks sg t) = if sg ≠ no ∧ okS sg = true then t else [] := by
  induction t with
  | nil => simp [mks, pkL]
  | cons s t ih =>
    have e : mks sg (s :: t) = ⟨sg, s⟩ :: mks sg t := rfl
    rw [e, pkL, ih]
    split <;> rfl
/-- the hunk of one change without context -/
theorem one_zero {a b : List (List UInt8)} {c : Ch} (hn : numB c = true) (hA : c.A + c.AN ≤ a.length) (hB : c.B + c.BN ≤ b.length) : oneH a b 0 [c] = ⟨noA c.A c.AN, c.AN, noA c.B c.BN, c.BN, mks 45 (cut a c.A c.AN) ++ mks 43 (cut b c.B c.BN)⟩ := by
  have h := (numB_iff c).1 hn
  have e : bodyH a b (min (a.length : Int) (c.A + c.AN + 0)) (c.A - min 0 c.A) [c] = mks 45 (cut a c.A c.AN) ++ mks 43 (cut b c.B c.BN) := by
    rw [show min (a.length : Int) (c.A + c.AN + 0) = c.A + c.AN by omega, show c.A - min 0 c.A = c.A by omega]
    simp only [bodyH]
    rw [show c.A - c.A = (0 : Int) by omega, show c.A + c.AN - (c.A + c.AN) = (0 : Int) by omega, cut_zero, cut_zero]
    simp [mks]
  have l1 : ((cut a c.A c.AN).length : Int) = c.AN := hcut_length (by omega) (by omega) hA
  have l2 : ((cut b c.B c.BN).length : Int) = c.BN := hcut_length (by omega) (by omega) hB
  have p1 : pkL 43 (mks 45 (cut a c.A c.AN) ++ mks 43 (cut b c.B c.BN)) = cut a c.A c.AN := by
    rw [pkL_append, npk_mks, npk_mks, if_pos (by decide), if_neg (by decide), List.append_nil]
  have p2 : pkL 45 (mks 45 (cut a c.A c.AN) ++ mks 43 (cut b c.B c.BN)) = cut b c.B c.BN := by
    rw [pkL_append, npk_mks, npk_mks, if_neg (by decide), if_pos (by decide), List.nil_append]
  show cntH (c.A - min 0 c.A) (c.B - min 0 c.A) (bodyH a b (min (a.length : Int) (c.A + c.AN + 0)) (c.A - min 0 c.A) [c]) = _
  rw [e]
  unfold cntH noA
  rw [p1, p2, l1, l2, show c.A - min 0 c.A = c.A by omega, show c.B - min 0 c.A = c.B by omega]
  have q1 : (0 < (cut a c.A c.AN).length) = (0 < c.AN) := propext ⟨fun q => by omega, fun q => by omega⟩
  have q2 : (0 < (cut b c.B c.BN).length) = (0 < c.BN) := propext ⟨fun q => by omega, fun q => by omega⟩
  simp only [q1, q2]
theorem right_mem {fl : Bool} {p q n m : Int} {l : List Ch} (h : Right fl p q n m l) : ∀ c ∈ l, numB c = true ∧ c.A + c.AN ≤ n ∧ c.B + c.BN ≤ m := by
  induction l generalizing fl p q with
  | nil => intro c hc; cases hc
  | cons x l ih =>
    intro c hc
    rcases List.mem_cons.1 hc with rfl | hc
    · exact ⟨h.1.1, h.2.le.1, h.2.le.2.1⟩
    · exact ih h.2 c hc
theorem mk_zero {l : List Ch} {a b : List (List UInt8)} (hs : Script l a.length b.length) : mkR l a b 0 = l.map fun c => oneH a b 0 [c] := by
  rw [(mkR_eq hs (by omega)).1, grp_zero l _ _ _ _ _ hs.2.2]
  simp
theorem pk_prt {l : List Ch} {a b : List (List UInt8)} (h : ∀ c ∈ l, numB c = true) : pkM (prtL l a b) = false := by
  cases l with
  | nil => rfl
  | cons c l =>
    obtain ⟨_, y, t, e, hy⟩ := cmd_bytes (h c (by simp))
    unfold prtL
    rw [List.flatMap_cons, chgL, e]
    simp only [List.cons_append, pkM, markT, List.isPrefixOf]
    have : ((92 : UInt8) == y) = false := by rw [beq_eq_false_iff_ne]; exact fun q => hy q.symm
    rw [this]
    rfl
/-- what was written is read again -/
theorem hks_back {a b : List (List UInt8)} (ha : checkB a = true) (hb : checkB b = true) (hal : a.length ≤ 2147483647) (hbl : b.length ≤ 2147483647) (l : List Ch) : ∀ (f k p : Nat), (∀ c ∈ l, numB c = true ∧ c.A + c.AN ≤ a.length ∧ c.B + c.BN ≤ b.length) → k + l.length ≤ 4096 → (prtL l a b).length ≤ f → hksP f k p (prtL l a b) = .ok (l.map fun c => oneH a b 0 [c]) := by
  induction l with
  | nil =>
    intro f k p _ _ _
    cases f <;> rfl
  | cons c l ih =>
    intro f k p h hk hf
    have hc := h c (by simp)
    have hn := (numB_iff c).1 hc.1
    have e : prtL (c :: l) a b = chgL a b c ++ prtL l a b := rfl
    rw [e] at hf ⊢
    have l1 : ((cut a c.A c.AN).length : Int) = c.AN := hcut_length (by omega) (by omega) hc.2.1
    have l2 : ((cut b c.B c.BN).length : Int) = c.BN := hcut_length (by omega) (by omega) hc.2.2
    obtain ⟨p', hh⟩ := hk_back (k := k) (p := p) (rest := prtL l a b) hc.1 (by omega) (by omega) (by omega) (by omega) (rows_cut ha c.A c.AN) (rows_cut hb c.B c.BN) (by simp at hk; omega) (pk_prt fun x hx => (h x (by simp [hx])).1)
    have hlen : 1 ≤ (chgL a b c).length := by simp [chgL]
    rw [List.length_append] at hf
    cases f with
    | zero => omega
    | succ f =>
      have hi := ih f (k + 1) p' (fun x hx => h x (by simp [hx])) (by simp at hk; omega) (by omega)
      simp only [hksP]
      rw [if_neg (by simp [chgL]), hh]
      simp only [hi]
      simp only [List.map_cons]
      rw [one_zero hc.1 hc.2.1 hc.2.2]
/-- all lines that are written have their line feed, at the end alone -/
def Fed (ls : List (List UInt8)) : Prop := ∀ s ∈ ls, ∃ t, s = t ++ [10] ∧ ∀ c ∈ t, c ≠ 10
theorem fed_check {ls : List (List UInt8)} (h : Fed ls) : checkB ls = true := by
  induction ls with
  | nil => rfl
  | cons s r ih =>
    obtain ⟨t, e, ht⟩ := h s (by simp)
    simp only [checkB, Bool.and_eq_true]
    refine ⟨?_, ih fun x hx => h x (by simp [hx])⟩
    rw [e]
    exact lineB_cut ht _
theorem fed_line {ah x : List UInt8} (ha : ∀ c ∈ ah, c ≠ 10) (hx : linB x = true) : Fed (lnL ah x) := by
  obtain ⟨h0, h1⟩ := lin_no hx
  unfold lnL
  split
  · rename_i hf
    intro s hs
    rw [List.mem_singleton.1 hs]
    refine ⟨ah ++ x.dropLast, ?_, ?_⟩
    · rw [List.append_assoc, ← fd_form hf]
    · intro c hc
      rcases List.mem_append.1 hc with hc | hc
      · exact ha c hc
      · exact h1 c hc
  · rename_i hf
    intro s hs
    rcases List.mem_cons.1 hs with rfl | hs
    · refine ⟨ah ++ x, rfl, ?_⟩
      intro c hc
      rcases List.mem_append.1 hc with hc | hc
      · exact ha c hc
      · intro e
        subst e
        rcases List.eq_nil_or_concat x with rfl | ⟨q, y, rfl⟩
        · cases hc
        · rw [List.concat_eq_append] at hc hf h1
          rcases List.mem_append.1 hc with hc | hc
          · exact h1 10 (by simpa using hc) rfl
          · have : y = 10 := (List.mem_singleton.1 hc).symm
            subst this
            exact hf (fd_snoc q)
    · rw [List.mem_singleton.1 hs]
      refine ⟨markT.dropLast, rfl, ?_⟩
      decide
theorem fed_prt {a b : List (List UInt8)} (ha : checkB a = true) (hb : checkB b = true) {l : List Ch} (h : ∀ c ∈ l, numB c = true) : Fed (prtL l a b) := by
  intro s hs
  obtain ⟨c, hc, hs⟩ := List.mem_flatMap.1 hs
  unfold chgL at hs
  rcases List.mem_cons.1 hs with rfl | hs
  · exact ⟨cmdT c, rfl, (cmd_bytes (h c hc)).1⟩
  · rcases List.mem_append.1 hs with hs | hs
    · obtain ⟨x, hx, hs⟩ := List.mem_flatMap.1 hs
      exact fed_line (by decide) (rows_lin (rows_cut ha c.A c.AN) x hx) s hs
    · rcases List.mem_append.1 hs with hs | hs
      · unfold sepL at hs
        split at hs
        · rw [List.mem_singleton.1 hs]
          exact ⟨[45, 45, 45], rfl, by decide⟩
        · cases hs
      · obtain ⟨x, hx, hs⟩ := List.mem_flatMap.1 hs
        exact fed_line (by decide) (rows_lin (rows_cut hb c.B c.BN) x hx) s hs
theorem split_prt {a b : List (List UInt8)} (ha : checkB a = true) (hb : checkB b = true) {l : List Ch} (h : ∀ c ∈ l, numB c = true) : splitL (prtT l a b) = prtL l a b := right_split _ (fed_check (fed_prt ha hb h))
/-- 12.3: what is written of right lines is read as the hunks without context -/
theorem normal_back {l : List Ch} {a b : List (List UInt8)} (hs : Script l a.length b.length) (ha : checkB a = true) (hb : checkB b = true) (hal : a.length ≤ 1000000) (hbl : b.length ≤ 1000000) (hl : l.length ≤ 4096) : prsT (prtT l a b) = if 1048576 < (prtT l a b).length then .error (0, 9) else .ok (mkR l a b 0) := by
  have hm := right_mem hs.2.2
  unfold prsT
  rw [split_prt ha hb fun c hc => (hm c hc).1, hks_back ha hb (by omega) (by omega) l _ 0 0 hm (by omega) (Nat.le_refl _), mk_zero hs]
/-- what was read had its line feeds -/
def Alf (c : List (List UInt8)) : Prop := ∀ s ∈ c, fdB s = true
theorem alf_app {x y : List (List UInt8)} (hx : Alf x) (hy : Alf y) : Alf (x ++ y) := fun s hs => (List.mem_append.1 hs).elim (hx s) (hy s)
theorem mark_fed {s : List UInt8} (hp : ∀ c ∈ s.dropLast, c ≠ 10) (h : markT.isPrefixOf s = true) : fdB s = true := by
  obtain ⟨t, rfl⟩ := List.isPrefixOf_iff_prefix.1 h
  cases t with
  | nil => rfl
  | cons x t =>
    exfalso
    refine hp 10 ?_ rfl
    rw [List.dropLast_append_of_ne_nil (by simp)]
    exact List.mem_append_left _ (by decide)
theorem nxt_fed {p : Nat} {ls r : List (List UInt8)} {s : List UInt8} (h : nxt p ls = .ok (s, r)) : ∃ c, ls = c ++ r ∧ Alf c := by
  refine ⟨[s ++ [10]], nxt_ok h, ?_⟩
  intro x hx
  rw [List.mem_singleton.1 hx]
  exact fd_snoc s
theorem mkd_fed {sg : List UInt8} {last : Bool} {p p1 : Nat} {ls r : List (List UInt8)} {t : List UInt8} (hP : Plain ls) (h : mkd sg last p ls = .ok (t, p1, r)) : ∃ c, ls = c ++ r ∧ Alf c := by
  unfold mkd at h
  split at h
  · cases h
  · rename_i s r0 hn
    obtain ⟨c, e, hc⟩ := nxt_fed hn
    split at h
    · split at h
      · rename_i hl
        split at h
        · cases h
        · cases h
          simp only [Bool.and_eq_true] at hl
          cases r0 with
          | nil => simp [pkM] at hl
          | cons y r0 =>
            refine ⟨c ++ [y], by rw [e]; simp, alf_app hc ?_⟩
            intro x hx
            rw [List.mem_singleton.1 hx]
            exact mark_fed (hP y (by rw [e]; simp)) hl.2
      · cases h
        exact ⟨c, e, hc⟩
    · cases h
theorem rdN_fed {sg : List UInt8} {S : Int} (n : Nat) : ∀ {p p1 : Nat} {ls r : List (List UInt8)} {l : List Mk}, Plain ls → rdN sg S n p ls = .ok (l, p1, r) → ∃ c, ls = c ++ r ∧ Alf c := by
  induction n with
  | zero =>
    intro p p1 ls r l hP h
    simp only [rdN] at h
    cases h
    exact ⟨[], rfl, fun s hs => by cases hs⟩
  | succ n ih =>
    intro p p1 ls r l hP h
    simp only [rdN] at h
    split at h
    · cases h
    · rename_i t q1 r1 hm
      obtain ⟨c1, e1, hc1⟩ := mkd_fed hP hm
      have hP1 := (mkd_ok hP hm).2.2.1
      split at h
      · cases h
      · rename_i l' q2 r2 hr
        obtain ⟨c2, e2, hc2⟩ := ih hP1 hr
        cases h
        exact ⟨c1 ++ c2, by rw [e1, e2]; simp, alf_app hc1 hc2⟩
theorem hkP_fed {k p p1 : Nat} {ls r : List (List UInt8)} {h : Hk} (hP : Plain ls) (hh : hkP k p ls = .ok (h, p1, r)) : ∃ c, ls = c ++ r ∧ Alf c := by
  unfold hkP at hh
  split at hh
  · cases hh
  · rename_i s r0 hn
    obtain ⟨c0, e0, hc0⟩ := nxt_fed hn
    have hP0 := (nxt_len hP hn).2
    split at hh
    · cases hh
    · rename_i A AN B BN hc
      split at hh
      · cases hh
      · split at hh
        · cases hh
        · rename_i l1 q1 r1 h1
          obtain ⟨c1, e1, hc1⟩ := rdN_fed _ hP0 h1
          have hP1 := (rdN_ok _ hP0 h1).2.2.2.1
          split at hh
          · cases hh
          · rename_i q2 r2 h2
            have hs : (∃ c, r1 = c ++ r2 ∧ Alf c) ∧ Plain r2 := (by
              split at h2
              · unfold sepP at h2
                split at h2
                · cases h2
                · rename_i s3 r3 hn3
                  split at h2
                  · cases h2
                    exact ⟨nxt_fed hn3, (nxt_len hP1 hn3).2⟩
                  · cases h2
              · cases h2
                exact ⟨⟨[], rfl, fun s hs => by cases hs⟩, hP1⟩)
            obtain ⟨⟨c2, e2, hc2⟩, hP2⟩ := hs
            split at hh
            · cases hh
            · rename_i l2 q3 r3 h3
              obtain ⟨c3, e3, hc3⟩ := rdN_fed _ hP2 h3
              cases hh
              exact ⟨c0 ++ (c1 ++ (c2 ++ c3)), by rw [e0, e1, e2, e3]; simp, alf_app hc0 (alf_app hc1 (alf_app hc2 hc3))⟩
theorem hksP_fed (f : Nat) : ∀ {k p : Nat} {ls : List (List UInt8)} {l : List Hk}, Plain ls → ls.length ≤ f → hksP f k p ls = .ok l → Alf ls := by
  induction f with
  | zero =>
    intro k p ls l hP hf h
    have : ls = [] := List.eq_nil_of_length_eq_zero (by omega)
    subst this
    intro s hs
    cases hs
  | succ f ih =>
    intro k p ls l hP hf h
    simp only [hksP] at h
    split at h
    · rename_i he
      subst he
      intro s hs
      cases hs
    · split at h
      · cases h
      · rename_i hk q1 r1 h1
        obtain ⟨a1, a2, a3⟩ := hkP_ok hP h1
        obtain ⟨c, e, hc⟩ := hkP_fed hP h1
        have hpos : 0 < hkC1 hk := by unfold hkC1; omega
        split at h
        · cases h
        · rename_i l' h2
          have := ih a3 (by omega) h2
          rw [e]
          exact alf_app hc this
/-- what is read ends with a line feed -/
theorem prs_feed {t : List UInt8} {l : List Hk} (h : prsT t = .ok l) : t = [] ∨ fdB t = true := by
  unfold prsT at h
  split at h
  · cases h
  · have hf := hksP_fed _ (split_plain t) (Nat.le_refl _) h
    have hj := split_join t
    cases hq : splitL t with
    | nil => left; exact split_nil hq
    | cons x r =>
      right
      rw [hq] at hj hf
      have hl : ∀ (x : List UInt8) (r : List (List UInt8)), Alf (x :: r) → fdB (x :: r).flatten = true := by
        intro x r
        induction r generalizing x with
        | nil =>
          intro h1
          have := h1 x (by simp)
          simpa using this
        | cons y r ih =>
          intro h1
          have := ih y fun s hs => h1 s (by simp [hs])
          rw [List.flatten_cons]
          exact (fd_app this).1
      rw [← hj]
      exact hl x r hf
theorem prs_count {t : List UInt8} {l : List Hk} (h : prsT t = .ok l) : hksC l = (splitL t).length := by
  unfold prsT at h
  split at h
  · cases h
  · exact hksP_ok _ (split_plain t) (Nat.le_refl _) h
/-- a part of what is written is never read as the whole -/
theorem normal_cut {s : List UInt8} {l : List Hk} (hw : prsT s = .ok l) {k : Nat} (hk : k < s.length) : prsT (s.take k) ≠ .ok l := by
  intro hp
  have c1 := prs_count hw
  have c2 := prs_count hp
  have f1 := prs_feed hw
  have f2 := prs_feed hp
  have g1 := split_count s
  have g2 := split_count (s.take k)
  have hfb : ∀ x : List UInt8, feedB x = fdB x := fun x => rfl
  have hs : s ≠ [] := by rintro rfl; simp at hk
  have e1 : (feedB s || s.isEmpty) = true := by
    rcases f1 with f1 | f1
    · exact absurd f1 hs
    · rw [hfb, f1]; rfl
  have e2 : (feedB (s.take k) || (s.take k).isEmpty) = true := by
    rcases f2 with f2 | f2
    · rw [f2]; rfl
    · rw [hfb, f2]; rfl
  rw [e1] at g1
  rw [e2] at g2
  simp only [if_true] at g1 g2
  have g3 : s.count 10 = (s.take k).count 10 + (s.drop k).count 10 := by
    rw [← List.count_append, List.take_append_drop]
  have g4 : 0 < (s.drop k).count 10 := by
    rw [List.count_pos_iff]
    rcases f1 with f1 | f1
    · exact absurd f1 hs
    · have h1 : s.getLast? = some 10 := by simpa [fdB] using f1
      have h2 : (s.drop k).getLast? = some 10 := by
        rw [List.getLast?_drop, if_neg (by omega), h1]
      exact List.mem_of_getLast? h2
  omega
end Go.Proofs.YtnlbjknfahhfaaaGreatDoor

/- What is read in the normal form are right hunks; plain mathematics. -/
set_option maxRecDepth 20000
namespace Go.Proofs.YtnlbjknfahhfaaaGreatDoor
open Ln

theorem sat_pos : ∀ (l : List UInt8) (n : Int), 0 ≤ n → l.all Pn.digB = true → 0 ≤ Pn.sat n l
  | [], _, hn, _ => hn
  | c :: t, n, hn, h => by
    simp only [List.all_cons, Bool.and_eq_true] at h
    have h1 := Pn.digB_out h.1
    rw [Pn.sat]
    exact sat_pos t _ (by omega) h.2
theorem prs_num {s : List UInt8} : 0 ≤ Pn.parseV s ∧ Pn.parseV s ≤ 2147483647 := by
  unfold Pn.parseV
  split
  · rename_i h
    exact ⟨sat_pos s 0 (by omega) (Pn.isNum_all h.1), h.2⟩
  · omega
theorem lns_right {s : List UInt8} {x n : Int} (h : lnsP s = some (x, n)) : 1 ≤ x ∧ x ≤ 2147483647 ∧ 1 ≤ n ∧ n ≤ 2147483647 := by
  unfold lnsP at h
  split at h
  · split at h
    · rename_i y _ z _ hc
      cases h
      have h1 := @prs_num y
      have h2 := @prs_num z
      omega
    · cases h
  · split at h
    · rename_i hc
      cases h
      have h1 := @prs_num s
      omega
    · cases h
theorem one_right {s : List UInt8} {x n : Int} (h : oneP s = some (x, n)) : 0 ≤ x ∧ x ≤ 2147483647 ∧ n = 0 := by
  unfold oneP at h
  split at h
  · cases h
    have h1 := @prs_num s
    omega
  · cases h
theorem cmd_right {s : List UInt8} {A AN B BN : Int} (h : cmdP s = some (A, AN, B, BN)) : (0 ≤ A ∧ A ≤ 2147483647 ∧ 0 ≤ AN ∧ AN ≤ 2147483647 ∧ (0 < AN → 1 ≤ A)) ∧ (0 ≤ B ∧ B ≤ 2147483647 ∧ 0 ≤ BN ∧ BN ≤ 2147483647 ∧ (0 < BN → 1 ≤ B)) ∧ (0 < AN ∨ 0 < BN) := by
  unfold cmdP at h
  split at h
  · cases h
  · rename_i x c y _
    split at h
    · rename_i A' AN' B' BN' h1 h2
      cases h
      by_cases hc : c = 97
      · subst hc
        rw [if_pos rfl] at h1
        rw [if_neg (by decide)] at h2
        have q1 := one_right h1
        have q2 := lns_right h2
        omega
      · rw [if_neg hc] at h1
        have q1 := lns_right h1
        by_cases hd : c = 100
        · subst hd
          rw [if_pos rfl] at h2
          have q2 := one_right h2
          omega
        · rw [if_neg hd] at h2
          have q2 := lns_right h2
          omega
    · cases h
theorem pk_out {no : Int} {l : List Mk} (h : ∀ m ∈ l, m.sg = no) : pkL no l = [] := by
  induction l with
  | nil => rfl
  | cons m l ih =>
    have hm := h m (by simp)
    simp only [pkL]
    rw [if_neg (fun hq => hq.1 hm)]
    exact ih fun x hx => h x (by simp [hx])
theorem pk_in {no s : Int} (hs : s ≠ no) (ho : okS s = true) {l : List Mk} (h : ∀ m ∈ l, m.sg = s) : (pkL no l).length = l.length := by
  induction l with
  | nil => rfl
  | cons m l ih =>
    have hm := h m (by simp)
    simp only [pkL]
    rw [if_pos (by rw [hm]; exact ⟨hs, ho⟩), List.length_cons, List.length_cons, ih fun x hx => h x (by simp [hx])]
theorem fld_last {S no : Int} (hS : okS S = true) (hn : (no = 43 ∧ S = 45) ∨ (no = 45 ∧ S = 43)) : ∀ (l r : List Mk), (∀ m ∈ l, m.sg = S ∧ linB m.tx = true) → (∀ m ∈ l.dropLast, fdB m.tx = true) → (∀ m ∈ r, m.sg = no) → fldB r = true → fldB (l ++ r) = true
  | [], _, _, _, _, hr => hr
  | [m], r, h1, _, h3, hr => by
    obtain ⟨a1, a2⟩ := h1 m (by simp)
    have h4 : lstB S r = true := (by
      unfold lstB
      rw [List.all_eq_true]
      intro x hx
      have := h3 x hx
      rw [this]
      rcases hn with ⟨rfl, rfl⟩ | ⟨rfl, rfl⟩ <;> decide)
    simp only [List.singleton_append, fldB, a1, a2, hS, hr, Bool.and_true, Bool.true_and]
    rcases hn with ⟨rfl, rfl⟩ | ⟨rfl, rfl⟩ <;> simp [h4]
  | m :: x :: l, r, h1, h2, h3, hr => by
    obtain ⟨a1, a2⟩ := h1 m (by simp)
    have h4 : fdB m.tx = true := h2 m (by simp [List.dropLast_cons_cons])
    have := fld_last hS hn (x :: l) r (fun y hy => h1 y (by simp at hy ⊢; exact Or.inr hy)) (fun y hy => h2 y (by rw [List.dropLast_cons_cons]; exact List.mem_cons_of_mem _ hy)) h3 hr
    rw [List.cons_append, fldB, this, a1, a2, hS, h4]
    rfl
/-- a hunk that was read is right -/
theorem hk_right {k p p1 : Nat} {ls r : List (List UInt8)} {h : Hk} (hP : Plain ls) (hh : hkP k p ls = .ok (h, p1, r)) : chkH h = 0 := by
  unfold hkP at hh
  split at hh
  · cases hh
  · rename_i s r0 hn
    obtain ⟨a1, a2⟩ := nxt_len hP hn
    split at hh
    · cases hh
    · rename_i A AN B BN hc
      have hr := cmd_right hc
      split at hh
      · cases hh
      · split at hh
        · cases hh
        · rename_i l1 q1 r1 h1
          obtain ⟨b1, b2, b3, b4, b5, b6⟩ := rdN_ok _ a2 h1
          split at hh
          · cases hh
          · rename_i q2 r2 h2
            have hs : Plain r2 := (by
              split at h2
              · unfold sepP at h2
                split at h2
                · cases h2
                · rename_i s3 r3 hn3
                  obtain ⟨c1, c2⟩ := nxt_len b4 hn3
                  split at h2
                  · cases h2
                    exact c2
                  · cases h2
              · cases h2
                exact b4)
            split at hh
            · cases hh
            · rename_i l2 q3 r3 h3
              obtain ⟨d1, d2, d3, d4, d5, d6⟩ := rdN_ok _ hs h3
              cases hh
              have e1 : rngB ⟨A, AN, B, BN, l1 ++ l2⟩ = true := (by
                simp only [rngB, nat31, Bool.and_eq_true, Bool.not_eq_true', Bool.and_eq_false_iff, decide_eq_true_eq, decide_eq_false_iff_not]
                omega)
              have e2 : fldB (l1 ++ l2) = true := (by
                have g := fld_last (S := 43) (no := 45) (by decide) (Or.inr ⟨rfl, rfl⟩) l2 [] d5 d6 (fun m hm => by cases hm) rfl
                rw [List.append_nil] at g
                exact fld_last (S := 45) (no := 43) (by decide) (Or.inl ⟨rfl, rfl⟩) l1 l2 b5 b6 (fun m hm => (d5 m hm).1) g)
              have e3 : (oldL ⟨A, AN, B, BN, l1 ++ l2⟩).length = l1.length := (by
                show (pkL 43 (l1 ++ l2)).length = _
                rw [pkL_append, List.length_append, pk_in (s := 45) (by decide) (by decide) (fun m hm => (b5 m hm).1), pk_out (fun m hm => (d5 m hm).1)]
                simp)
              have e4 : (newL ⟨A, AN, B, BN, l1 ++ l2⟩).length = l2.length := (by
                show (pkL 45 (l1 ++ l2)).length = _
                rw [pkL_append, List.length_append, pk_out (fun m hm => (b5 m hm).1), pk_in (s := 43) (by decide) (by decide) (fun m hm => (d5 m hm).1)]
                simp)
              have e5 : (l1 ++ l2).all (fun m => decide (m.sg = 32)) = false := (by
                rw [List.all_eq_false]
                rcases hr.2.2 with hq | hq
                · obtain ⟨x, hx⟩ := List.exists_mem_of_length_pos (l := l1) (by omega)
                  exact ⟨x, by simp [hx], by rw [(b5 x hx).1]; decide⟩
                · obtain ⟨x, hx⟩ := List.exists_mem_of_length_pos (l := l2) (by omega)
                  exact ⟨x, by simp [hx], by rw [(d5 x hx).1]; decide⟩)
              unfold chkH
              rw [if_neg (by rw [e1]; decide), if_neg (by rw [e2]; decide), if_neg (by rw [e3, e4]; simp only [b1, d1, not_or, Decidable.not_not]; omega), e5]
              rfl
/-- all hunks that were read are right -/
theorem hks_right (f : Nat) : ∀ {k p : Nat} {ls : List (List UInt8)} {l : List Hk}, Plain ls → hksP f k p ls = .ok l → ∀ h ∈ l, chkH h = 0 := by
  induction f with
  | zero =>
    intro k p ls l _ h
    simp only [hksP] at h
    cases h
    intro x hx
    cases hx
  | succ f ih =>
    intro k p ls l hP h
    simp only [hksP] at h
    split at h
    · cases h
      intro x hx
      cases hx
    · split at h
      · cases h
      · rename_i hk q1 r1 h1
        split at h
        · cases h
        · rename_i l' h2
          cases h
          intro x hx
          rcases List.mem_cons.1 hx with rfl | hx
          · exact hk_right hP h1
          · exact ih (hkP_ok hP h1).2.2 h2 x hx
theorem prs_right {t : List UInt8} {l : List Hk} (h : prsT t = .ok l) : ∀ x ∈ l, chkH x = 0 := by
  unfold prsT at h
  split at h
  · cases h
  · exact hks_right _ (split_plain t) h
end Go.Proofs.YtnlbjknfahhfaaaGreatDoor

/- The form of archives as texts and as lines: how an edit script is written, how commands are done; what is written makes the second text of the first; plain mathematics. -/
set_option maxRecDepth 20000
namespace Go.Proofs.YtnlbjknfahhfaaaGreatDoor
open Ln

/-- the line of a command, without its line feed -/
def rcB (t : UInt8) (p n : Int) : List UInt8 := t :: (Lib.itoa p ++ 32 :: Lib.itoa n)
/-- a change, as lines -/
def rcC (b : List (List UInt8)) (c : Ch) : List (List UInt8) := (if 0 < c.AN then [rcB 100 (c.A + 1) c.AN ++ [10]] else []) ++ (if 0 < c.BN then (rcB 97 (c.A + c.AN) c.BN ++ [10]) :: cut b c.B c.BN else [])
/-- an edit script, as lines, and as a text -/
def rcL (l : List Ch) (b : List (List UInt8)) : List (List UInt8) := l.flatMap (rcC b)
def rcT (l : List Ch) (b : List (List UInt8)) : List UInt8 := (rcL l b).flatten

def isW (c : UInt8) : Bool := c == 32
/-- a command: whether it puts in, how many lines stand ahead, how many are put in or taken out -/
def rcmP : List UInt8 → Option (Bool × Nat × Nat)
  | [] => none
  | c :: t => match spB isW t with
    | none => none
    | some (x, _, y) => if Pn.parseE x = 0 ∧ Pn.parseE y = 0 ∧ 0 < Pn.parseV y then if c = 97 then some (true, (Pn.parseV x).toNat, (Pn.parseV y).toNat) else if c = 100 ∧ 0 < Pn.parseV x then some (false, (Pn.parseV x - 1).toNat, (Pn.parseV y).toNat) else none else none
def rcmF (s : List UInt8) : Option (Bool × Nat × Nat) := if fdB s = true then rcmP s.dropLast else none
/-- a line is done: what is made, how many lines are done, whether lines were put in there, the place, what is left -/
def rcS (a : List (List UInt8)) (p : Nat) (s : List UInt8) (r out : List (List UInt8)) (dn : Nat) (fl : Bool) : Except (Nat × Int) (List (List UInt8) × Nat × Bool × Nat × List (List UInt8)) :=
  match rcmF s with
  | none => .error (p + 1, 3)
  | some (ad, ah, n) => if ah < dn ∨ (ah = dn ∧ ad = true ∧ fl = true) then .error (p + 1, 121)
    else if a.length < ah + (if ad = true then 0 else n) then .error (p + 1, 2)
    else if ad = true then if r.length < n then .error (p + 1 + r.length + 1, 1) else .ok (out ++ (a.drop dn).take (ah - dn) ++ r.take n, ah, true, p + 1 + n, r.drop n)
    else .ok (out ++ (a.drop dn).take (ah - dn), ah + n, false, p + 1, r)
/-- the end -/
def rcF (p : Nat) (l : List (List UInt8)) : Except (Nat × Int) (List (List UInt8)) := if checkB l = true then .ok l else .error (p + 1, 6)
def rcE (a : List (List UInt8)) : Nat → Nat → List (List UInt8) → List (List UInt8) → Nat → Bool → Except (Nat × Int) (List (List UInt8))
  | 0, p, _, out, dn, _ => rcF p (out ++ a.drop dn)
  | _ + 1, p, [], out, dn, _ => rcF p (out ++ a.drop dn)
  | f + 1, p, s :: r, out, dn, fl => match rcS a p s r out dn fl with
    | .error e => .error e
    | .ok (o, d, g, q, r2) => rcE a f q r2 o d g
/-- 14.2 -/
def rcR (t : List UInt8) (a : List (List UInt8)) : Except (Nat × Int) (List (List UInt8)) := if 1048576 < t.length then .error (0, 9) else rcE a (splitL t).length 0 (splitL t) [] 0 false

theorem rcE_nil (a : List (List UInt8)) (f p : Nat) (out : List (List UInt8)) (dn : Nat) (fl : Bool) : rcE a f p [] out dn fl = rcF p (out ++ a.drop dn) := by cases f <;> rfl
theorem rcmP_bd {s : List UInt8} {ad : Bool} {ah n : Nat} (h : rcmP s = some (ad, ah, n)) : ah ≤ 2147483647 ∧ 0 < n ∧ n ≤ 2147483647 := by
  cases s with
  | nil => cases h
  | cons c t =>
    simp only [rcmP] at h
    split at h
    · cases h
    · rename_i x d y _
      have b1 := @prs_num x
      have b2 := @prs_num y
      split at h
      · rename_i hq
        split at h
        · cases h
          omega
        · split at h
          · cases h
            omega
          · cases h
      · cases h
/-- some lines of commands are done -/
def RcRuns (a : List (List UInt8)) (p : Nat) (ls out : List (List UInt8)) (dn : Nat) (fl : Bool) (p' : Nat) (ls' out' : List (List UInt8)) (dn' : Nat) (fl' : Bool) : Prop :=
  ∀ f, ls.length ≤ f → ∃ f', ls'.length ≤ f' ∧ rcE a f p ls out dn fl = rcE a f' p' ls' out' dn' fl'
theorem RcRuns.refl (a : List (List UInt8)) (p : Nat) (ls out : List (List UInt8)) (dn : Nat) (fl : Bool) : RcRuns a p ls out dn fl p ls out dn fl := fun f hf => ⟨f, hf, rfl⟩
theorem RcRuns.trans {a : List (List UInt8)} {p p1 p2 : Nat} {ls ls1 ls2 o o1 o2 : List (List UInt8)} {d d1 d2 : Nat} {g g1 g2 : Bool} (h : RcRuns a p ls o d g p1 ls1 o1 d1 g1) (k : RcRuns a p1 ls1 o1 d1 g1 p2 ls2 o2 d2 g2) : RcRuns a p ls o d g p2 ls2 o2 d2 g2 := fun f hf => by
  obtain ⟨f1, h1, e1⟩ := h f hf
  obtain ⟨f2, h2, e2⟩ := k f1 h1
  exact ⟨f2, h2, e1.trans e2⟩
theorem RcRuns.step {a : List (List UInt8)} {p q : Nat} {s : List UInt8} {r r2 o o1 : List (List UInt8)} {d d1 : Nat} {g g1 : Bool} (h : rcS a p s r o d g = .ok (o1, d1, g1, q, r2)) (hl : r2.length ≤ r.length) : RcRuns a p (s :: r) o d g q r2 o1 d1 g1 := fun f hf => by
  cases f with
  | zero => simp at hf
  | succ f =>
    refine ⟨f, by simp only [List.length_cons] at hf; omega, ?_⟩
    rw [rcE, h]
theorem dig_blank {n : Int} (h : 0 ≤ n) : ∀ c ∈ Lib.itoa n, isW c = false := by
  intro c hc
  have h1 := Pn.digB_out (itoa_dig h c hc)
  unfold isW
  rw [beq_eq_false_iff_ne]
  rintro rfl
  simp at h1
theorem rcmP_put {p n : Int} (hp : 0 ≤ p) (hp1 : p ≤ 2147483647) (hn : 0 < n) (hn1 : n ≤ 2147483647) : rcmP (rcB 97 p n) = some (true, p.toNat, n.toNat) := by
  unfold rcB rcmP
  dsimp only
  rw [spB_app (dig_blank hp) (by decide)]
  obtain ⟨e1, e2⟩ := parse_itoa_ok hp hp1
  obtain ⟨e3, e4⟩ := parse_itoa_ok (n := n) (by omega) hn1
  dsimp only
  rw [e1, e2, e3, e4, if_pos ⟨rfl, rfl, hn⟩, if_pos rfl]
theorem rcmP_take {p n : Int} (hp : 0 ≤ p) (hp1 : p + 1 ≤ 2147483647) (hn : 0 < n) (hn1 : n ≤ 2147483647) : rcmP (rcB 100 (p + 1) n) = some (false, p.toNat, n.toNat) := by
  unfold rcB rcmP
  dsimp only
  rw [spB_app (dig_blank (by omega)) (by decide)]
  obtain ⟨e1, e2⟩ := parse_itoa_ok (n := p + 1) (by omega) hp1
  obtain ⟨e3, e4⟩ := parse_itoa_ok (n := n) (by omega) hn1
  dsimp only
  rw [e1, e2, e3, e4, if_pos ⟨rfl, rfl, hn⟩, if_neg (by decide), if_pos ⟨rfl, by omega⟩, Int.add_sub_cancel]
theorem rcmF_snoc (s : List UInt8) : rcmF (s ++ [10]) = rcmP s := by
  unfold rcmF
  rw [if_pos (fd_snoc s), List.dropLast_concat]
theorem rcB_bytes {t : UInt8} {p n : Int} (ht : t ≠ 10) (hp : 0 ≤ p) (hn : 0 ≤ n) : ∀ c ∈ rcB t p n, c ≠ 10 := by
  intro c hc
  unfold rcB at hc
  rcases List.mem_cons.1 hc with rfl | hc
  · exact ht
  · rcases List.mem_append.1 hc with hc | hc
    · exact (dig_facts (itoa_dig hp c hc)).2.2.1
    · rcases List.mem_cons.1 hc with rfl | hc
      · decide
      · exact (dig_facts (itoa_dig hn c hc)).2.2.1
/-- a change is done -/
theorem rc_ch {a b : List (List UInt8)} {c : Ch} (hn : numB c = true) (hal : a.length ≤ 2147483647) (hA : c.A + c.AN ≤ a.length) (hB : c.B + c.BN ≤ b.length) (R out : List (List UInt8)) (p dn : Nat) (g : Bool) (hd : (dn : Int) ≤ c.A) (hg : g = true → (dn : Int) < c.A) :
    ∃ p' g', RcRuns a p (rcC b c ++ R) out dn g p' R (out ++ cut a dn (c.A - dn) ++ cut b c.B c.BN) (c.A + c.AN).toNat g' := by
  have h := (numB_iff c).1 hn
  have hcl := hcut_length (A := b) (p := c.B) (k := c.BN) (by omega) (by omega) hB
  have ecut : cut a dn (c.A - dn) = (a.drop dn).take (c.A.toNat - dn) := by
    unfold cut
    rw [Int.toNat_natCast]
    congr 1
    omega
  have tk : (cut b c.B c.BN ++ R).take c.BN.toNat = cut b c.B c.BN := by
    rw [List.take_append_of_le_length (by omega), List.take_of_length_le (by omega)]
  have dk : (cut b c.B c.BN ++ R).drop c.BN.toNat = R := by
    rw [List.drop_append_of_le_length (by omega), List.drop_of_length_le (by omega), List.nil_append]
  unfold rcC
  by_cases h1 : 0 < c.AN
  · rw [if_pos h1]
    have s1 : ∀ (r : List (List UInt8)), rcS a p (rcB 100 (c.A + 1) c.AN ++ [10]) r out dn g = .ok (out ++ cut a dn (c.A - dn), (c.A + c.AN).toNat, false, p + 1, r) := fun r => by
      unfold rcS
      rw [rcmF_snoc, rcmP_take (by omega) (by omega) h1 (by omega)]
      dsimp only
      rw [if_neg (by intro q; rcases q with q | q; · omega
                     · cases q.2.1), if_neg (by rw [if_neg (by decide)]; omega), if_neg (by decide), ecut]
      congr 3
      omega
    by_cases h2 : 0 < c.BN
    · rw [if_pos h2]
      refine ⟨p + 1 + 1 + c.BN.toNat, true, ?_⟩
      have r1 := RcRuns.step (s1 ((rcB 97 (c.A + c.AN) c.BN ++ [10]) :: (cut b c.B c.BN ++ R))) (Nat.le_refl _)
      refine r1.trans ?_
      have s2 : rcS a (p + 1) (rcB 97 (c.A + c.AN) c.BN ++ [10]) (cut b c.B c.BN ++ R) (out ++ cut a dn (c.A - dn)) (c.A + c.AN).toNat false = .ok (out ++ cut a dn (c.A - dn) ++ cut b c.B c.BN, (c.A + c.AN).toNat, true, p + 1 + 1 + c.BN.toNat, R) := by
        unfold rcS
        rw [rcmF_snoc, rcmP_put (by omega) (by omega) h2 (by omega)]
        dsimp only
        rw [if_neg (by intro q; rcases q with q | q; · omega
                       · cases q.2.2), if_neg (by rw [if_pos rfl]; omega), if_pos rfl, if_neg (by rw [List.length_append]; omega), tk, dk, Nat.sub_self]
        simp
      exact RcRuns.step s2 (by simp)
    · rw [if_neg h2]
      refine ⟨p + 1, false, ?_⟩
      have e : cut b c.B c.BN = [] := List.eq_nil_of_length_eq_zero (by omega)
      rw [e]
      simp only [List.append_nil]
      exact RcRuns.step (s1 R) (Nat.le_refl _)
  · have h2 : 0 < c.BN := by omega
    have h0 : c.AN = 0 := by omega
    rw [if_neg h1, if_pos h2]
    refine ⟨p + 1 + c.BN.toNat, true, ?_⟩
    have s2 : rcS a p (rcB 97 (c.A + c.AN) c.BN ++ [10]) (cut b c.B c.BN ++ R) out dn g = .ok (out ++ cut a dn (c.A - dn) ++ cut b c.B c.BN, (c.A + c.AN).toNat, true, p + 1 + c.BN.toNat, R) := by
      unfold rcS
      rw [rcmF_snoc, rcmP_put (by omega) (by omega) h2 (by omega)]
      dsimp only
      rw [if_neg (by intro q; rcases q with q | q; · omega
                     · have := hg q.2.2; omega), if_neg (by rw [if_pos rfl]; omega), if_pos rfl, if_neg (by rw [List.length_append]; omega), tk, dk, ecut]
      congr 5
      omega
    exact RcRuns.step s2 (by simp)
/-- the commands of a script are done -/
theorem rc_chs {a b : List (List UInt8)} (hal : a.length ≤ 2147483647) (l : List Ch) : ∀ (fl : Bool) (x y : Int), 0 ≤ x → 0 ≤ y → Right fl x y a.length b.length l → ∀ (R out : List (List UInt8)) (p : Nat) (g : Bool), (fl = true → g = false) → ∃ p' d' g' out', RcRuns a p (l.flatMap (rcC b) ++ R) out x.toNat g p' R out' d' g' ∧ out' ++ a.drop d' = out ++ (piecesL x y a.length b.length l).flatMap (pa a b) := by
  induction l with
  | nil =>
    intro fl x y hx hy hr R out p g hg
    obtain ⟨h1, h2, h3⟩ := hr
    refine ⟨p, x.toNat, g, out, RcRuns.refl _ _ _ _ _ _, ?_⟩
    have e : (piecesL x y a.length b.length []).flatMap (pa a b) = a.drop x.toNat := by
      simp only [piecesL, List.flatMap_cons, List.flatMap_nil, List.append_nil, pa]
      have e1 : cut b (b.length : Int) 0 = [] := by simp [cut]
      rw [e1, List.append_nil, cut, List.take_of_length_le (by rw [List.length_drop]; omega)]
    rw [e]
  | cons c l ih =>
    intro fl x y hx hy hr R out p g hg
    obtain ⟨⟨h1, h2, h3, h4⟩, h5⟩ := hr
    have hn := (numB_iff c).1 h1
    have hle := h5.le
    obtain ⟨p1, g1, r1⟩ := rc_ch (b := b) h1 hal (by omega) (by omega) (l.flatMap (rcC b) ++ R) out p x.toNat g (by omega) (fun e => by
      rcases h4 with h4 | h4
      · rw [hg h4] at e; cases e
      · omega)
    obtain ⟨p2, d2, g2, o2, r2, e2⟩ := ih false (c.A + c.AN) (c.B + c.BN) (by omega) (by omega) h5 R (out ++ cut a x.toNat (c.A - x.toNat) ++ cut b c.B c.BN) p1 g1 (fun e => by cases e)
    refine ⟨p2, d2, g2, o2, ?_, ?_⟩
    · rw [List.flatMap_cons, List.append_assoc]
      exact r1.trans r2
    · rw [e2]
      simp only [piecesL, List.flatMap_cons, pa]
      rw [Int.toNat_of_nonneg hx]
      simp
theorem check_app {X Y : List (List UInt8)} (hX : checkB X = true) (hY : checkB Y = true) (h : Y = [] ∨ ∀ s ∈ X, fdB s = true) : checkB (X ++ Y) = true := by
  rcases h with rfl | h
  · rw [List.append_nil]; exact hX
  · induction X with
    | nil => exact hY
    | cons s t ih =>
      simp only [checkB, Bool.and_eq_true, List.cons_append] at hX ⊢
      refine ⟨?_, ih hX.2 fun x hx => h x (by simp [hx])⟩
      have h1 := hX.1
      rw [lineB_eq] at h1 ⊢
      simp only [Bool.and_eq_true] at h1 ⊢
      refine ⟨h1.1, ?_⟩
      rw [h s (by simp), Bool.or_true]
theorem check_drop {X : List (List UInt8)} (hX : checkB X = true) (n : Nat) : checkB (X.drop n) = true := by
  induction n generalizing X with
  | zero => exact hX
  | succ n ih =>
    cases X with
    | nil => rfl
    | cons s t =>
      simp only [checkB, Bool.and_eq_true] at hX
      exact ih hX.2
theorem check_take {X : List (List UInt8)} (hX : checkB X = true) (n : Nat) : checkB (X.take n) = true := by
  induction n generalizing X with
  | zero => rfl
  | succ n ih =>
    cases X with
    | nil => rfl
    | cons s t =>
      simp only [checkB, Bool.and_eq_true, List.take_succ_cons] at hX ⊢
      refine ⟨?_, ih hX.2⟩
      have h1 := hX.1
      rw [lineB_eq] at h1 ⊢
      simp only [Bool.and_eq_true] at h1 ⊢
      refine ⟨h1.1, ?_⟩
      cases t with
      | nil => simp
      | cons x t =>
        have h2 := h1.2
        simp only [List.isEmpty_cons, Bool.false_or] at h2
        rw [h2, Bool.or_true]
theorem check_fed {X : List (List UInt8)} (hX : checkB X = true) (n : Nat) (hn : n < X.length) : ∀ s ∈ X.take n, fdB s = true := by
  induction n generalizing X with
  | zero => intro s hs; cases hs
  | succ n ih =>
    cases X with
    | nil => intro s hs; cases hs
    | cons x t =>
      simp only [checkB, Bool.and_eq_true] at hX
      simp only [List.length_cons] at hn
      intro s hs
      rw [List.take_succ_cons] at hs
      rcases List.mem_cons.1 hs with rfl | hs
      · have h1 := hX.1
        rw [lineB_eq] at h1
        simp only [Bool.and_eq_true] at h1
        have h2 := h1.2
        cases t with
        | nil => simp at hn
        | cons y t =>
          simp only [List.isEmpty_cons, Bool.false_or] at h2
          exact h2
      · exact ih hX.2 (by omega) s hs
theorem rcB_line {t : UInt8} {p n : Int} (ht : t ≠ 10) (hp : 0 ≤ p) (hn : 0 ≤ n) (last : Bool) : lineB (rcB t p n ++ [10]) last = true := by
  rw [show rcB t p n ++ [10] = rcB t p n ++ 10 :: [] from rfl, lineB_cut (rcB_bytes ht hp hn)]
  rfl
theorem rcC_check {b : List (List UInt8)} {c : Ch} (hb : checkB b = true) (hn : numB c = true) : checkB (rcC b c) = true ∧ (c.B + c.BN < b.length → ∀ s ∈ rcC b c, fdB s = true) := by
  have h := (numB_iff c).1 hn
  have hc1 : checkB (cut b c.B c.BN) = true := check_take (check_drop hb _) _
  have hc2 : c.B + c.BN < b.length → ∀ s ∈ cut b c.B c.BN, fdB s = true := fun q => check_fed (check_drop hb _) _ (by rw [List.length_drop]; omega)
  have hx1 : checkB (if 0 < c.AN then [rcB 100 (c.A + 1) c.AN ++ [10]] else []) = true := by
    split
    · simp only [checkB, Bool.and_eq_true]
      exact ⟨rcB_line (by decide) (by omega) (by omega) _, trivial⟩
    · rfl
  have hx2 : ∀ s ∈ (if 0 < c.AN then [rcB 100 (c.A + 1) c.AN ++ [10]] else []), fdB s = true := by
    intro s hs
    split at hs
    · rw [List.mem_singleton.1 hs]; exact fd_snoc _
    · cases hs
  have hy1 : checkB (if 0 < c.BN then (rcB 97 (c.A + c.AN) c.BN ++ [10]) :: cut b c.B c.BN else []) = true := by
    split
    · simp only [checkB, Bool.and_eq_true]
      exact ⟨rcB_line (by decide) (by omega) (by omega) _, hc1⟩
    · rfl
  refine ⟨check_app hx1 hy1 (.inr hx2), fun q s hs => ?_⟩
  unfold rcC at hs
  rcases List.mem_append.1 hs with hs | hs
  · exact hx2 s hs
  · split at hs
    · rcases List.mem_cons.1 hs with rfl | hs
      · exact fd_snoc _
      · exact hc2 q s hs
    · cases hs
theorem rcL_check {b : List (List UInt8)} (hb : checkB b = true) {n : Int} (l : List Ch) : ∀ (fl : Bool) (x y : Int), 0 ≤ y → Right fl x y n b.length l → checkB (rcL l b) = true := by
  induction l with
  | nil => intro _ _ _ _ _; rfl
  | cons c l ih =>
    intro fl x y hy hr
    obtain ⟨⟨h1, h2, h3, h4⟩, h5⟩ := hr
    have hn := (numB_iff c).1 h1
    have hc := rcC_check hb h1
    have hi := ih false (c.A + c.AN) (c.B + c.BN) (by omega) h5
    unfold rcL at hi ⊢
    rw [List.flatMap_cons]
    refine check_app hc.1 hi ?_
    cases l with
    | nil => exact .inl rfl
    | cons d l =>
      refine .inr (hc.2 ?_)
      obtain ⟨⟨k1, k2, k3, k4⟩, k5⟩ := h5
      have kn := (numB_iff d).1 k1
      have kl := k5.le
      rcases k4 with k4 | k4
      · cases k4
      · omega
theorem split_rc {b : List (List UInt8)} {l : List Ch} {n : Int} (hb : checkB b = true) (hs : Script l n b.length) : splitL (rcT l b) = rcL l b := right_split _ (rcL_check hb l true 0 0 (Int.le_refl _) hs.2.2)
/-- 14.3 -/
theorem rc_back {l : List Ch} {a b : List (List UInt8)} (hs : Script l a.length b.length) (hb : checkB b = true) (hal : a.length ≤ 2147483647) (same : ∀ r ∈ U 0 0 a.length b.length l, a[r.a.toNat]? = b[r.b.toNat]?) :
    rcR (rcT l b) a = if 1048576 < (rcT l b).length then .error (0, 9) else .ok b := by
  unfold rcR
  rw [split_rc hb hs]
  split
  · rfl
  · obtain ⟨p1, d1, g1, o1, r1, e1⟩ := rc_chs hal l true 0 0 (Int.le_refl _) (Int.le_refl _) hs.2.2 [] [] 0 false (fun _ => rfl)
    rw [reach hs.2.2 (Int.le_refl _) (Int.le_refl _) same] at e1
    obtain ⟨f, hf, e⟩ := r1 (rcL l b).length (by rw [List.append_nil]; exact Nat.le_refl _)
    rw [List.append_nil] at e
    have e' : rcE a (rcL l b).length 0 (rcL l b) [] 0 false = rcE a f p1 [] o1 d1 g1 := e
    rw [e', rcE_nil, e1]
    unfold rcF
    have e2 : ([] : List (List UInt8)) ++ b.drop (0 : Int).toNat = b := rfl
    rw [e2, if_pos hb]
end Go.Proofs.YtnlbjknfahhfaaaGreatDoor

/- The reference's Bare, walked: a line without its line feed. -/
set_option maxRecDepth 20000
namespace Go.Proofs.YtnlbjknfahhfaaaGreatDoor
open Go.RowKit
attribute [local go_sem] ByteArray.extract_mk

theorem no_at (l : List UInt8) (k : Nat) (h : k < (⟨l.toArray⟩ : ByteArray).size) : (⟨l.toArray⟩ : ByteArray)[k]'h = l[k]'(h) := rfl
attribute [local go_sem] no_at
/-- a line without its line feed -/
def bareT (s : List UInt8) : List UInt8 := if fdB s = true then s.dropLast else s
theorem bareT_yes {l : List UInt8} (h0 : 0 < l.length) (h : l[l.length - 1] = 10) : bareT l = l.take (l.length - 1) ∧ fdB l = true := by
  have hf : fdB l = true := by unfold fdB; rw [List.getLast?_eq_getElem?, List.getElem?_eq_getElem (by omega), h]; rfl
  exact ⟨by rw [bareT, hf, List.dropLast_eq_take]; rfl, hf⟩
theorem bareT_no {l : List UInt8} (h0 : 0 < l.length) (h : l[l.length - 1] ≠ 10) : bareT l = l ∧ fdB l = false := by
  have hf : fdB l = false := by unfold fdB; rw [List.getLast?_eq_getElem?, List.getElem?_eq_getElem (by omega)]; simpa using h
  exact ⟨by rw [bareT, hf]; rfl, hf⟩
end Go.Proofs.YtnlbjknfahhfaaaGreatDoor

/- The reference's Join and Check of layer lines, walked over rows as stage 5 says them. -/
set_option maxRecDepth 20000
namespace Go.Proofs.YtnlbjknfahhfaaaGreatDoor
open Ln Go.RowKit
attribute [local go_sem] no_at ByteArray.extract_mk

theorem rj_conv {P : Program} (w : World) (src dst e : TypeId) (B : Nat) (v : Value) (l : List UInt8) (hs : P.underlying src = some (.slice e)) (he : P.underlying e = some (.int .u8)) (hd : P.underlying dst = some .string)
    (h : w.ownsRowF B e 1 v l.length (Lib.byteCells l)) : (convert src dst v).run P w = .ok (.string ⟨l.toArray⟩) w := by
  rcases h.2 with ⟨rfl, h0⟩ | ⟨g, cap, cur, fz, rfl, _⟩
  · have : l = [] := List.eq_nil_of_length_eq_zero h0
    subst this
    rw [run_convert_bytes_string w src dst e none 0 0 hs he hd]
    rfl
  · refine run_convert_bytes_back w src dst e ⟨g, 0, none⟩ cap l hs he hd ?_
    intro j hj
    exact h.cells (g := g) rfl j _ (by simp [Lib.byteCells, hj])
theorem rj_idx {P : Program} (t : TypeId) (h : P.underlying t = some .string) (L : List UInt8) (i : Int) (k : Nat) (hk : k < L.length) (hi : i = k) (w : World) :
    (Instr.index t (.string ⟨L.toArray⟩) (.int .i64 i)).run P w = .ok (.int .u8 (L[k].toNat : Int)) w := by
  subst hi
  rw [run_index_string w t ⟨L.toArray⟩ .i64 (k : Int) h]
  have hs : (⟨L.toArray⟩ : ByteArray).size = L.length := rfl
  rw [dif_pos ⟨by omega, by rw [hs]; omega⟩]
  rfl
theorem rj_u8 : (Tryz.prog.info? 5).map (fun i => (i.zero, i.size, i.bytes)) = some (some (.int .u8 0), 1, 1) := by kernel_rfl
theorem rj_take (ws : List (List UInt8)) (k : Nat) : (ws.take k).flatten.length ≤ ws.flatten.length := by
  conv => rhs; rw [← List.take_append_drop k ws, List.flatten_append, List.length_append]
  omega
theorem rj_feed {x : List UInt8} {m : Nat} {last : Bool} (h : lineB x last = lineB (x.drop m) last) (hm : m + 1 < x.length) (h10 : x[m] = 10) : lineB x last = false := by
  rw [h, List.drop_eq_getElem_cons (by omega), lineB_cons _ _ _ (by intro e; have := congrArg List.length e; simp at this; omega), h10]; rfl
theorem rj_next {x : List UInt8} {m : Nat} {last : Bool} (h : lineB x last = lineB (x.drop m) last) (hm : m + 1 < x.length) (h10 : x[m] ≠ 10) : lineB x last = lineB (x.drop (m + 1)) last := by
  rw [h, List.drop_eq_getElem_cons (by omega), lineB_cons _ _ _ (by intro e; have := congrArg List.length e; simp at this; omega)]
  simp [h10]
theorem rj_last {x : List UInt8} {m : Nat} {last : Bool} (h : lineB x last = lineB (x.drop m) last) (hm : m + 1 = x.length) : lineB x last = (last || x[m] == 10) := by
  rw [h, List.drop_eq_getElem_cons (by omega), List.drop_of_length_le (by omega)]; rfl
theorem rj_no {ws : List (List UInt8)} {x : List UInt8} {t : List (List UInt8)} {last : Bool} (h : checkB ws = checkB (x :: t)) (hl : last = t.isEmpty) (hx : lineB x last = false) : checkE ws = 6 := by
  unfold checkE
  rw [h]
  simp [checkB, ← hl, hx]
theorem rj_go {ws : List (List UInt8)} {x : List UInt8} {t : List (List UInt8)} {last : Bool} (h : checkB ws = checkB (x :: t)) (hl : last = t.isEmpty) (hx : lineB x last = true) : checkB ws = checkB t := by
  rw [h]
  simp [checkB, ← hl, hx]
theorem rj_end {ws : List (List UInt8)} (h : checkB ws = checkB []) : checkE ws = 0 := by
  unfold checkE; rw [h]; rfl
theorem rj_isEmpty {ws : List (List UInt8)} {k : Nat} (hk : k < ws.length) : (ws.drop (k + 1)).isEmpty = ((k : Int) == (ws.length : Int) - 1) := by
  rw [Bool.eq_iff_iff, List.isEmpty_iff, List.drop_eq_nil_iff, beq_iff_eq]; omega
theorem rj_ret {a b : Int} (h : a = b) : Ending.returned (.int .i64 b) = .returned (.int .i64 a) := by rw [h]
theorem rj_is10 {x : UInt8} (h : x = 10) : ((x.toNat : Int) == 10) = true ∧ ((x.toNat : Int) != 10) = false := by subst h; exact ⟨rfl, rfl⟩
theorem rj_not10 {x : UInt8} (h : x ≠ 10) : ((x.toNat : Int) == 10) = false ∧ ((x.toNat : Int) != 10) = true := by
  have : ¬ ((x.toNat : Int) = 10) := fun hq => h (UInt8.toNat_inj.1 (by show _ = 10; omega))
  exact ⟨beq_eq_false_iff_ne.2 this, bne_iff_ne.2 this⟩
theorem rj_wrap {n : Int} (h0 : -9223372036854775808 ≤ n) (h1 : n ≤ 9223372036854775807) : IntKind.i64.wrap n = n := by
  simp [IntKind.wrap, IntKind.bits, IntKind.signed]
  split <;> omega
end Go.Proofs.YtnlbjknfahhfaaaGreatDoor

/- Two texts joined. -/
set_option maxRecDepth 20000
namespace Go.Proofs.YtnlbjknfahhfaaaGreatDoor

theorem ba_join (a b : List UInt8) : ((⟨a.toArray⟩ : ByteArray) ++ (⟨b.toArray⟩ : ByteArray)) = ⟨(a ++ b).toArray⟩ := by
  apply ByteArray.ext
  simp
end Go.Proofs.YtnlbjknfahhfaaaGreatDoor

/- The reference's text of a number, walked: the decimal digits, with a sign ahead of a negative one. -/
set_option maxRecDepth 20000
namespace Go.Proofs.YtnlbjknfahhfaaaGreatDoor
open Go.RowKit

theorem tx_conv {P : Program} (src dst e : TypeId) (hs : P.underlying src = some (.slice e)) (he : P.underlying e = some (.int .u8)) (hd : P.underlying dst = some .string) (w : World) (x : Int) (h0 : 0 ≤ x) (h1 : x < 256) :
    (convert src dst (.slice (some ⟨w.heap.size, 0, none⟩) 1 1)).run P (w.alloc (.cells #[.int .u8 x] e)) = .ok (.string ⟨#[UInt8.ofNat x.toNat]⟩) (w.alloc (.cells #[.int .u8 x] e)) := by
  have hx : ((UInt8.ofNat x.toNat).toNat : Int) = x := by simp only [UInt8.toNat_ofNat']; omega
  refine run_convert_bytes_back (w.alloc (.cells #[.int .u8 x] e)) src dst e ⟨w.heap.size, 0, none⟩ 1 [UInt8.ofNat x.toNat] hs he hd ?_
  intro j hj
  have ej : j = 0 := by simpa using hj
  subst ej
  have := heap_alloc_new w (.cells #[.int .u8 x] e)
  show (w.alloc (.cells #[.int .u8 x] e)).cell? ⟨w.heap.size, 0 + 0, none⟩ = some (.int .u8 ((UInt8.ofNat x.toNat).toNat : Int))
  rw [hx]
  unfold World.cell?
  dsimp only
  rw [this]
  rfl
/-- the last digit of a number -/
def txc (m : Nat) : UInt8 := UInt8.ofNat (48 + m % 10)
/-- the digits ahead of what is written -/
def txp (m : Nat) : List UInt8 := if m = 0 then [] else Lib.decDigits m
theorem txp_step (m : Nat) (h : 0 < m) : txp m = txp (m / 10) ++ [txc m] := by
  unfold txp
  rw [if_neg (by omega), Lib.decDigits]
  by_cases h10 : m < 10
  · rw [dif_pos h10, if_pos (by omega)]
    have : m % 10 = m := by omega
    simp [txc, this]
  · rw [dif_neg h10, if_neg (by omega)]; rfl
theorem dec_txp (m : Nat) : Lib.decDigits m = txp (m / 10) ++ [txc m] := by
  by_cases h : m = 0
  · subst h; rw [Lib.decDigits]; simp [txp, txc]
  · have := txp_step m (by omega)
    rw [← this]; simp [txp, h]
theorem dec_short : ∀ (n m : Nat), m < 10 ^ (n + 1) → (Lib.decDigits m).length ≤ n + 1
  | 0, m, h => by rw [Lib.decDigits, dif_pos (by simpa using h)]; simp
  | n + 1, m, h => by
    rw [Lib.decDigits]
    split
    · simp
    · have h2 : m / 10 < 10 ^ (n + 1) := by
        rw [Nat.div_lt_iff_lt_mul (by omega), ← Nat.pow_succ]; exact h
      have := dec_short n (m / 10) h2
      simp; omega
theorem itoa_short (n : Int) (h0 : -9223372036854775808 ≤ n) (h1 : n ≤ 9223372036854775807) : (Lib.itoa n).length ≤ 21 := by
  have hal : (Lib.decDigits n.natAbs).length ≤ 20 := dec_short 19 n.natAbs (by omega)
  unfold Lib.itoa
  split
  · simp only [List.length_cons]
    omega
  · have e : n.toNat = n.natAbs := by omega
    rw [e]
    omega
theorem tx_wrap (n : Int) (h : n < 0) (h0 : -9223372036854775808 ≤ n) : IntKind.u64.wrap (-IntKind.u64.wrap n) = (n.natAbs : Int) := by
  simp [IntKind.wrap, IntKind.bits, IntKind.signed]
  omega
end Go.Proofs.YtnlbjknfahhfaaaGreatDoor

/- The reference's small functions of the normal form's writing, walked: a range of lines, a line behind a sign. -/
set_option maxRecDepth 20000
namespace Go.Proofs.YtnlbjknfahhfaaaGreatDoor
open Go.RowKit
attribute [local go_sem] ByteArray.extract_mk no_at

end Go.Proofs.YtnlbjknfahhfaaaGreatDoor

/- The reference's change of the normal form, walked. -/
set_option maxRecDepth 20000
namespace Go.Proofs.YtnlbjknfahhfaaaGreatDoor
open Go.RowKit

/-- two texts can be joined -/
def Fits (x y : List UInt8) : Prop := x.length + y.length ≤ 4611686018427387904
theorem add_fits {x y : List UInt8} (h : Fits x y) (P : Program) (u : World) : (Op.stringOp .add ⟨x.toArray⟩ ⟨y.toArray⟩).run P u = .ok (.string ⟨(x ++ y).toArray⟩) u := by
  unfold Fits at h
  have e : ¬ (((⟨x.toArray⟩ : ByteArray).size + (⟨y.toArray⟩ : ByteArray).size : Nat) : Int) > IntKind.i64.max := by
    have h1 : (⟨x.toArray⟩ : ByteArray).size = x.length := rfl
    have h2 : (⟨y.toArray⟩ : ByteArray).size = y.length := rfl
    have h3 : IntKind.i64.max = 9223372036854775807 := rfl
    rw [h1, h2, h3]
    omega
  unfold Op.stringOp
  dsimp only
  rw [if_neg e, ba_join]
  rfl
/-- a change in a box, and all below it as it was -/
structure Cs (c : Ch) (b : Nat) (W w : World) : Prop where
  c0 : w.cell? ⟨b, 0, none⟩ = some (.int .i64 c.A)
  c1 : w.cell? ⟨b, 1, none⟩ = some (.int .i64 c.AN)
  c2 : w.cell? ⟨b, 2, none⟩ = some (.int .i64 c.B)
  c3 : w.cell? ⟨b, 3, none⟩ = some (.int .i64 c.BN)
  lt : b < w.heap.size
  low : Below W.heap.size W w
theorem Cs.keep {c : Ch} {b : Nat} {W w w' : World} (h : Cs c b W w) (hb : Below w.heap.size w w') : Cs c b W w' := by
  have hk : ∀ o, w'.cell? ⟨b, o, none⟩ = w.cell? ⟨b, o, none⟩ := fun o => by
    unfold World.cell?
    dsimp only
    rw [hb.block b h.lt]
  exact ⟨(hk 0).trans h.c0, (hk 1).trans h.c1, (hk 2).trans h.c2, (hk 3).trans h.c3, Nat.lt_of_lt_of_le h.lt hb.size, h.low.trans (hb.mono h.low.size)⟩
theorem cs_drew (c : Ch) (b : Nat) (W w : World) : Cs c b W w.drew ↔ Cs c b W w := ⟨fun h => ⟨h.c0, h.c1, h.c2, h.c3, h.lt, (h.low.trans ⟨rfl, rfl, rfl, Nat.le_refl _, fun _ _ => rfl⟩ : Below W.heap.size W w)⟩, fun h => ⟨h.c0, h.c1, h.c2, h.c3, h.lt, h.low.drew⟩⟩
attribute [local simp] cs_drew
theorem Cs.fresh (c : Ch) (w : World) : Cs c w.heap.size w (w.alloc (.cells #[.int .i64 c.A, .int .i64 c.AN, .int .i64 c.B, .int .i64 c.BN] 48)) := by
  have h := heap_alloc_new w (.cells #[.int .i64 c.A, .int .i64 c.AN, .int .i64 c.B, .int .i64 c.BN] 48)
  have hk : ∀ o, (w.alloc (.cells #[.int .i64 c.A, .int .i64 c.AN, .int .i64 c.B, .int .i64 c.BN] 48)).cell? ⟨w.heap.size, o, none⟩ = (#[Value.int .i64 c.A, .int .i64 c.AN, .int .i64 c.B, .int .i64 c.BN])[o]? := fun o => by
    unfold World.cell?
    dsimp only
    rw [h]
    rfl
  exact ⟨hk 0, hk 1, hk 2, hk 3, by rw [World.alloc]; simp, (Below.refl _ w).alloc (Nat.le_refl _) _⟩
/-- a call that leaves all below as it was leaves that change, too -/
theorem cs_stay {P : Program} {f : FuncId} {args : Array Value} {v : Value} {w : World} (h : Calls P f args w fun e w' => e = .returned v ∧ Below w.heap.size w w') {c : Ch} {A AN B BN : Int} (hc : Hid (⟨A, AN, B, BN⟩ = c)) (b : Nat) (W : World) (hS : Cs c b W w) :
    Calls P f args w fun e w' => e = .returned v ∧ w'.cell? ⟨b, 0, none⟩ = some (.int .i64 A) ∧ w'.cell? ⟨b, 1, none⟩ = some (.int .i64 AN) ∧ w'.cell? ⟨b, 2, none⟩ = some (.int .i64 B) ∧ w'.cell? ⟨b, 3, none⟩ = some (.int .i64 BN) ∧ Cs c b W w' := by
  have hc2 := hc.out
  subst hc2
  refine h.mono ?_
  rintro e w' ⟨rfl, hb⟩
  have hS' := hS.keep hb
  exact ⟨rfl, hS'.c0, hS'.c1, hS'.c2, hS'.c3, hS'⟩
theorem rng_short (p n : Int) (h0 : 0 ≤ p) (h1 : p ≤ 4611686018427387904) (h2 : 0 ≤ n) (h3 : n ≤ 4611686018427387900) : (rngT p n).length ≤ 43 := by
  have l1 := itoa_short (p + 1) (by omega) (by omega)
  have l2 := itoa_short (p + n) (by omega) (by omega)
  unfold rngT
  split
  · omega
  · simp only [List.length_append, List.length_cons]
    omega
theorem flatM_app {α : Type} (f : α → List (List UInt8)) (x y : List α) : ((x ++ y).flatMap f).flatten = (x.flatMap f).flatten ++ (y.flatMap f).flatten := by simp
/-- one line more -/
theorem cut_more {a : List (List UInt8)} {p n k : Nat} (hk : k < n) (hn : p + n ≤ a.length) : cut a (p : Int) ((k + 1 : Nat) : Int) = cut a p (k : Nat) ++ [a[p + k]'(by omega)] := by
  have h := @cut_cat a (p : Int) (k : Nat) 1 (by omega) (by omega) (by omega)
  have e : cut a ((p : Int) + (k : Nat)) 1 = [a[p + k]'(by omega)] := by
    unfold cut
    have e1 : ((p : Int) + (k : Nat)).toNat = p + k := by omega
    rw [e1, List.drop_eq_getElem_cons (by omega)]
    rfl
  rw [← e, h]
  rfl
theorem cut_pre {a : List (List UInt8)} {p n k : Nat} (hk : k ≤ n) (f : List UInt8 → List (List UInt8)) : ∃ z, ((cut a (p : Int) (n : Nat)).flatMap f).flatten = ((cut a (p : Int) (k : Nat)).flatMap f).flatten ++ z := by
  have h := @cut_cat a (p : Int) (k : Nat) ((n - k : Nat) : Int) (by omega) (by omega) (by omega)
  have e : ((k : Nat) : Int) + ((n - k : Nat) : Int) = (n : Nat) := by omega
  rw [e] at h
  rw [← h, flatM_app]
  exact ⟨_, rfl⟩
end Go.Proofs.YtnlbjknfahhfaaaGreatDoor

/- The reference's Print of the form of archives, walked. -/
set_option maxRecDepth 20000
namespace Go.Proofs.YtnlbjknfahhfaaaGreatDoor
open Go.RowKit
attribute [local simp] cs_drew

theorem add_z {x y z : List UInt8} (hz : x ++ y = z) (h : Fits x y) (P : Program) (u : World) : (Op.stringOp .add ⟨x.toArray⟩ ⟨y.toArray⟩).run P u = .ok (.string ⟨z.toArray⟩) u := by
  subst hz
  exact add_fits h P u
/-- a command's line behind what is written, sum by sum -/
theorem rc_adds (acc D1 D2 : List UInt8) (t : UInt8) (h : acc.length + D1.length + D2.length ≤ 2305843009213693952) (P : Program) : ∃ Z1 Z2 Z3 Z4 Z5 : List UInt8,
    (∀ u, (Op.stringOp .add ⟨acc.toArray⟩ ⟨#[t]⟩).run P u = .ok (.string ⟨Z1.toArray⟩) u) ∧ (∀ u, (Op.stringOp .add ⟨Z1.toArray⟩ ⟨D1.toArray⟩).run P u = .ok (.string ⟨Z2.toArray⟩) u) ∧ (∀ u, (Op.stringOp .add ⟨Z2.toArray⟩ ⟨#[32]⟩).run P u = .ok (.string ⟨Z3.toArray⟩) u) ∧ (∀ u, (Op.stringOp .add ⟨Z3.toArray⟩ ⟨D2.toArray⟩).run P u = .ok (.string ⟨Z4.toArray⟩) u) ∧ (∀ u, (Op.stringOp .add ⟨Z4.toArray⟩ ⟨#[10]⟩).run P u = .ok (.string ⟨Z5.toArray⟩) u) ∧ Hid (acc ++ (t :: (D1 ++ 32 :: D2) ++ [10]) = Z5) := by
  refine ⟨acc ++ [t], acc ++ [t] ++ D1, acc ++ [t] ++ D1 ++ [32], acc ++ [t] ++ D1 ++ [32] ++ D2, acc ++ [t] ++ D1 ++ [32] ++ D2 ++ [10], ?_, ?_, ?_, ?_, ?_, ?_⟩
  · exact add_fits (x := acc) (y := [t]) (by unfold Fits; simp only [List.length_cons, List.length_nil]; omega) P
  · exact add_fits (y := D1) (by unfold Fits; simp only [List.length_append, List.length_cons, List.length_nil]; omega) P
  · exact add_fits (y := [32]) (by unfold Fits; simp only [List.length_append, List.length_cons, List.length_nil]; omega) P
  · exact add_fits (y := D2) (by unfold Fits; simp only [List.length_append, List.length_cons, List.length_nil]; omega) P
  · exact add_fits (y := [10]) (by unfold Fits; simp only [List.length_append, List.length_cons, List.length_nil]; omega) P
  · show _ = _
    simp
theorem rcT_step {l : List Ch} {b : List (List UInt8)} {k : Nat} (h : k < l.length) : rcT (l.drop k) b = (rcC b l[k]).flatten ++ rcT (l.drop (k + 1)) b := by
  unfold rcT rcL
  rw [List.drop_eq_getElem_cons h, List.flatMap_cons, List.flatten_append]
theorem rc_cutl {b : List (List UInt8)} (p n : Int) : (cut b p n).length ≤ b.length ∧ (cut b p n).flatten.length ≤ b.flatten.length := by
  unfold cut
  refine ⟨by simp only [List.length_take, List.length_drop]; omega, ?_⟩
  have h1 := rj_take (b.drop p.toNat) n.toNat
  have h2 : (b.drop p.toNat).flatten.length ≤ b.flatten.length := by
    conv => rhs; rw [← List.take_append_drop p.toNat b, List.flatten_append, List.length_append]
    omega
  omega
end Go.Proofs.YtnlbjknfahhfaaaGreatDoor

/- The reference's Print of the normal form, walked. -/
set_option maxRecDepth 20000
namespace Go.Proofs.YtnlbjknfahhfaaaGreatDoor
open Go.RowKit

theorem prt_more {l : List Ch} {a b : List (List UInt8)} {k : Nat} (hk : k < l.length) : prtT (l.take (k + 1)) a b = prtT (l.take k) a b ++ (chgL a b l[k]).flatten := by
  unfold prtT prtL
  rw [List.take_succ_eq_append_getElem hk, List.flatMap_append, List.flatten_append, List.flatMap_singleton]
theorem prt_pre {l : List Ch} {a b : List (List UInt8)} (k : Nat) : (prtT (l.take k) a b).length ≤ (prtT l a b).length := by
  have e : prtT l a b = prtT (l.take k) a b ++ prtT (l.drop k) a b := by
    unfold prtT prtL
    rw [← List.flatten_append, ← List.flatMap_append, List.take_append_drop]
  rw [e, List.length_append]
  omega
/-- how long what is written is -/
theorem lnL_len (ah s : List UInt8) : (lnL ah s).flatten.length ≤ ah.length + s.length + 29 := by
  unfold lnL
  split <;> simp [markT] <;> omega
theorem lns_len (ah : List UInt8) (x : List (List UInt8)) : (x.flatMap (lnL ah)).flatten.length ≤ x.length * (ah.length + 29) + x.flatten.length := by
  induction x with
  | nil => simp
  | cons s x ih =>
    have h := lnL_len ah s
    simp only [List.flatMap_cons, List.flatten_append, List.length_append, List.length_cons, List.flatten_cons]
    have e : (x.length + 1) * (ah.length + 29) = x.length * (ah.length + 29) + (ah.length + 29) := Nat.succ_mul _ _
    omega
end Go.Proofs.YtnlbjknfahhfaaaGreatDoor

/- How long the normal form of a script is; plain mathematics. -/
set_option maxRecDepth 20000
namespace Go.Proofs.YtnlbjknfahhfaaaGreatDoor

theorem cmd_len {c : Ch} (h : numB c = true) : (cmdT c).length ≤ 100 := by
  rw [numB_iff] at h
  have r1 := rng_short c.A c.AN h.1.1 (by omega) h.2.1.1 (by omega)
  have r2 := rng_short c.B c.BN h.2.2.1.1 (by omega) h.2.2.2.1.1 (by omega)
  have r3 := itoa_short c.A (by omega) (by omega)
  have r4 := itoa_short c.B (by omega) (by omega)
  unfold cmdT
  split
  · simp only [List.length_append, List.length_cons]; omega
  · split
    · simp only [List.length_append, List.length_cons]; omega
    · simp only [List.length_append, List.length_cons]; omega
theorem flat_drop {a : List (List UInt8)} {p A AN : Int} (hp : 0 ≤ p) (hA : p ≤ A) (hN : 0 ≤ AN) : (cut a A AN).flatten.length + (a.drop (A + AN).toNat).flatten.length ≤ (a.drop p.toNat).flatten.length := by
  have e1 : a.drop p.toNat = (a.drop p.toNat).take (A - p).toNat ++ a.drop A.toNat := by
    have h := (List.take_append_drop (A - p).toNat (a.drop p.toNat)).symm
    rw [List.drop_drop] at h
    have e : p.toNat + (A - p).toNat = A.toNat := by omega
    rw [e] at h
    exact h
  have e2 : a.drop A.toNat = cut a A AN ++ a.drop (A + AN).toNat := by
    have h := (List.take_append_drop AN.toNat (a.drop A.toNat)).symm
    rw [List.drop_drop] at h
    have e : A.toNat + AN.toNat = (A + AN).toNat := by omega
    rw [e] at h
    exact h
  rw [e1, e2]
  simp only [List.flatten_append, List.length_append]
  omega
theorem cut_le (a : List (List UInt8)) (p n : Int) : (cut a p n).length ≤ n.toNat := by
  unfold cut
  rw [List.length_take]
  omega
theorem chg_len {a b : List (List UInt8)} {c : Ch} (h : numB c = true) : (chgL a b c).flatten.length ≤ 105 + 31 * (c.AN.toNat + c.BN.toNat) + (cut a c.A c.AN).flatten.length + (cut b c.B c.BN).flatten.length := by
  have h1 := cmd_len h
  have h2 := lns_len [60, 32] (cut a c.A c.AN)
  have h3 := lns_len [62, 32] (cut b c.B c.BN)
  have h4 := cut_le a c.A c.AN
  have h5 := cut_le b c.B c.BN
  have h6 : (sepL c).flatten.length ≤ 4 := by
    unfold sepL
    split <;> simp
  simp only [List.length_cons, List.length_nil] at h2 h3
  simp only [chgL, List.flatten_cons, List.flatten_append, List.length_append, List.length_cons, List.length_nil]
  omega
theorem prt_len_at {a b : List (List UInt8)} {n m : Int} (l : List Ch) : ∀ {f : Bool} {p q : Int}, 0 ≤ p → 0 ≤ q → Right f p q n m l → (prtT l a b).length ≤ 105 * l.length + 31 * ((n - p).toNat + (m - q).toNat) + (a.drop p.toNat).flatten.length + (b.drop q.toNat).flatten.length := by
  induction l with
  | nil =>
    intro f p q _ _ _
    simp [prtT, prtL]
  | cons c l ih =>
    intro f p q hp hq h
    obtain ⟨⟨h1, h2, h3, _⟩, h5⟩ := h
    have hn := (numB_iff c).1 h1
    have hle := h5.le
    have g := ih (by omega) (by omega) h5
    have g1 := @chg_len a b c h1
    have g2 := @flat_drop a p c.A c.AN hp h3 hn.2.1.1
    have g3 := @flat_drop b q c.B c.BN hq (by omega) hn.2.2.2.1.1
    have e : prtT (c :: l) a b = (chgL a b c).flatten ++ prtT l a b := by simp [prtT, prtL]
    rw [e, List.length_append, List.length_cons]
    omega
/-- what is written of a right script -/
theorem prt_len {a b : List (List UInt8)} {l : List Ch} (h : Script l a.length b.length) : (prtT l a b).length ≤ 105 * l.length + 31 * (a.length + b.length) + a.flatten.length + b.flatten.length := by
  have g := @prt_len_at a b a.length b.length l true 0 0 (by omega) (by omega) h.2.2
  simpa using g
end Go.Proofs.YtnlbjknfahhfaaaGreatDoor

/- The library's contracts on a strings.Builder's WriteString and on strings.HasSuffix, TrimSuffix and CutPrefix at this program: the program bears the bodies that they speak of. -/
set_option maxRecDepth 20000
namespace Go.Proofs
open Go.Shelf Go.RowKit
def Tryz.lays166_ren : Go.Shelf.Ren := ⟨fun | 166 => 24 | 240 => 46 | 276 => 76 | n => n, fun | 0 => 0 | 3 => 3 | 4 => 4 | 5 => 5 | 9 => 9 | 20 => 20 | 37 => 60 | 70 => 59 | 72 => 62 | 75 => 35 | 80 => 71 | 164 => 113 | n => n, fun | n => n⟩
theorem Tryz.lays166 : Go.Proofs.Lays.n166 Tryz.prog Tryz.lays166_ren := {
  mixed := by kernel_rfl
  f166 := Tryz.func24.trans (congrArg some (by kernel_rfl))
  f240 := Tryz.func46.trans (congrArg some (by kernel_rfl))
  f276 := Tryz.func76.trans (congrArg some (by kernel_rfl))
  t0 := Tryz.underlying0
  a0 := Tryz.isAgg0
  z0 := Tryz.sizeOf0
  v0 := Tryz.zeroValue0
  t3 := Tryz.underlying3
  a3 := Tryz.isAgg3
  z3 := Tryz.sizeOf3
  v3 := Tryz.zeroValue3
  t4 := Tryz.underlying4
  a4 := Tryz.isAgg4
  z4 := Tryz.sizeOf4
  v4 := Tryz.zeroValue4
  t9 := Tryz.underlying9
  a9 := Tryz.isAgg9
  z9 := Tryz.sizeOf9
  v9 := Tryz.zeroValue9
  t20 := Tryz.underlying20
  a20 := Tryz.isAgg20
  z20 := Tryz.sizeOf20
  v20 := Tryz.zeroValue20
  t37 := Tryz.underlying60
  a37 := Tryz.isAgg60
  z37 := Tryz.sizeOf60
  v37 := Tryz.zeroValue60
  t70 := Tryz.underlying59
  a70 := Tryz.isAgg59
  z70 := Tryz.sizeOf59
  v70 := Tryz.zeroValue59
  t72 := Tryz.underlying62
  a72 := Tryz.isAgg62
  z72 := Tryz.sizeOf62
  v72 := Tryz.zeroValue62
  t75 := Tryz.underlying35
  a75 := Tryz.isAgg35
  z75 := Tryz.sizeOf35
  v75 := Tryz.zeroValue35
  t164 := Tryz.underlying113
  a164 := Tryz.isAgg113
  z164 := Tryz.sizeOf113
  v164 := Tryz.zeroValue113 }
theorem Tryz.Builder_Extra_166 : Builder.Extra Tryz.prog Tryz.lays166_ren := {
  sizeBuilder := by kernel_rfl
  liesBuilder := by kernel_rfl
  t5 := Tryz.underlying5
  a5 := Tryz.isAgg5
  z5 := Tryz.sizeOf5
  v5 := Tryz.zeroValue5
  infoByte := by kernel_rfl
  cellsByte := by kernel_rfl
  sizeByte := by kernel_rfl
  neB5 := by decide }
theorem Tryz.WriteString_h (B b : Nat) (bs : List Value) (s : ByteArray) (w : World) (h : Lib.IsBuilderF 62 5 B b bs w) (hlen : bs.length + s.size ≤ 140737488355328) (hBw : B ≤ w.heap.size) :
    Calls Tryz.prog 24 #[.pointer (some ⟨b, 0, none⟩), .string s] w fun e w' => e = .returned (.tuple #[.int .i64 s.size, .nilIface]) ∧ (Lib.BuilderAtF 62 5 B b (.pointer (some ⟨b, 0, none⟩)) (bs ++ Lib.strCells s) w' ∧ Below B w w' ∧ Lib.OthersKept 5 (some b) w w') :=
  Any.Builder_WriteString_k Tryz.lays166 Tryz.Builder_Extra_166 B b bs s w h hlen hBw
end Go.Proofs

/- The code's small functions of layer 12's Print, walked: numbers, ranges, letters, lines that are written. -/
set_option maxRecDepth 20000
namespace Go.Proofs.YtnlbjknfahhfaaaGreatDoor
open Go.RowKit

/-- the table of powers of ten, in every later world -/
def Tab10 (w : World) : Prop := ∀ u : World, Below w.heap.size w u → Lib.TabIs Tryz.prog u "internal/strconv.uint64pow10" .u64 Lib.pow10Tab
theorem Tab10.on {w u : World} (h : Tab10 w) (hb : Below w.heap.size w u) : Tab10 u := fun v hv => h v (hb.trans (hv.mono hb.size))
set_option maxHeartbeats 1000000 in
theorem nText_f (n : Int) (h0 : -9223372036854775808 ≤ n) (h1 : n ≤ 9223372036854775807) (w : World) (HT : Hid (Tab10 w)) :
    Calls Tryz.prog 47 #[.int .i64 n] w fun e w' => e = .returned (.string ⟨(Lib.itoa n).toArray⟩) ∧ Below w.heap.size w w' := by
  go_enter Tryz.func47, Tryz.ntmps47
  go_wp2_with fail
  refine (Tryz.strconv_Itoa n h0 h1 _ (HT.out _ (Below.refl _ _))).mono ?_
  rintro e w1 ⟨rfl, k, os, rfl⟩
  go_wp2
  go_ret
  exact ⟨rfl, Lib.below_grow w.heap.size w (Nat.le_refl _) k os⟩
/-- a range as the code writes it -/
def rgx (A N : Int) : List UInt8 := if N ≤ 1 then Lib.itoa A else Lib.itoa A ++ 44 :: Lib.itoa (A + N - 1)
theorem rgx_len {A N : Int} (h0 : 0 ≤ A) (h1 : A ≤ 4611686018427387904) (h2 : 0 ≤ N) (h3 : N ≤ 4611686018427387900) : (rgx A N).length ≤ 43 := by
  have l1 := itoa_short A (by omega) (by omega)
  have l2 := itoa_short (A + N - 1) (by omega) (by omega)
  unfold rgx
  split
  · omega
  · simp only [List.length_append, List.length_cons]
    omega
/-- what a hunk does, as the code writes it -/
def ltrT (AN BN : Int) : List UInt8 := if AN = 0 then [97] else if BN = 0 then [100] else [99]
theorem ltr_len (AN BN : Int) : (ltrT AN BN).length = 1 := by
  unfold ltrT
  split
  · rfl
  · split <;> rfl
end Go.Proofs.YtnlbjknfahhfaaaGreatDoor

/- The code's writeLines of layer 12, walked: lines behind a sign are written into a builder. -/
set_option maxRecDepth 20000
namespace Go.Proofs.YtnlbjknfahhfaaaGreatDoor
open Go.RowKit

theorem bcells_len (l : List UInt8) : (Lib.byteCells l).length = l.length := by simp [Lib.byteCells]
theorem suf_feed (s : List UInt8) : Lib.hasSuffix s [10] = fdB s := by
  unfold Lib.hasSuffix fdB
  rw [Bool.eq_iff_iff, List.isSuffixOf_iff_suffix, beq_iff_eq]
  constructor
  · rintro ⟨t, rfl⟩
    simp
  · intro h
    obtain ⟨t, rfl⟩ := List.getLast?_eq_some_iff.1 h
    exact ⟨t, rfl⟩
/-- a builder stays as it is where all ahead stays -/
theorem isF_low {T e : TypeId} {B b : Nat} {bs : List Value} {w w' : World} (h : Lib.IsBuilderF T e B b bs w) (hb : Below w.heap.size w w') : Lib.IsBuilderF T e B b bs w' := by
  have key : ∀ p, Lib.BuilderAtF T e B b p bs w → Lib.BuilderAtF T e B b p bs w' := by
    rintro p ⟨h1, v, h2, h3, h4⟩
    refine ⟨h1, v, (hb.block b (Array.getElem?_eq_some_iff.1 h2).1).trans h2, ⟨h3.1, ?_⟩, h4⟩
    rcases h3.2 with q | ⟨g, cap, cur, fz, q1, q2, q3, q4⟩
    · exact .inl q
    · exact .inr ⟨g, cap, cur, fz, q1, q2, (hb.block g (Array.getElem?_eq_some_iff.1 q3).1).trans q3, q4⟩
  rcases h with h | h
  · exact .inl (key _ h)
  · exact .inr (key _ h)
theorem isF_fresh (w : World) : Lib.IsBuilderF 62 5 w.heap.size w.heap.size (Lib.byteCells []) (w.alloc (.cells #[.pointer none, .slice none 0 0] 62)) :=
  .inl ⟨Nat.le_refl _, .slice none 0 0, heap_alloc_new w _, ⟨rfl, .inl ⟨rfl, rfl⟩⟩, by simp [Value.ownBlock]⟩
/-- a row of texts of one's own stays where a builder is written -/
theorem owns_others {w u : World} {base b : Nat} {v : Value} {n : Nat} {xs : List Value} (h : w.ownsRow base 9 1 v n xs) (hk : Lib.OthersKept 5 (some b) w u) (hb : ∀ g, v.ownBlock = some g → g ≠ b) : u.ownsRow base 9 1 v n xs := by
  refine ⟨h.1, ?_⟩
  rcases h.2 with q | ⟨g, cap, cur, rfl, q2, q3, q4⟩
  · exact .inl q
  · refine .inr ⟨g, cap, cur, rfl, q2, hk g _ q3 (fun e => hb g rfl (Option.some.inj e)) (fun c fz e => ?_), q4⟩
    cases e
end Go.Proofs.YtnlbjknfahhfaaaGreatDoor

/- The code's Join of layer lines, walked over rows as stage 5 says them. -/
set_option maxRecDepth 20000
namespace Go.Proofs.YtnlbjknfahhfaaaGreatDoor
open Ln Go.RowKit

def efbas (ws : List (List UInt8)) : List ByteArray := ws.map fun a => ⟨a.toArray⟩
theorem efbas_length (ws : List (List UInt8)) : (efbas ws).length = ws.length := by simp [efbas]
theorem efbas_data (ws : List (List UInt8)) : (efbas ws).map (fun s => s.data.toList) = ws := by simp [efbas, Function.comp_def]
set_option maxHeartbeats 1000000 in
theorem lJoin_f (v : Value) (ws : List (List UInt8)) (w : World) (hl : ws.length ≤ 1099511627776) (hf : ws.flatten.length ≤ 1099511627776) (hv : HS w v ws) :
    Calls Tryz.prog 13 #[v] w fun e w' => e = .returned (.string ⟨ws.flatten.toArray⟩) ∧ Below w.heap.size w w' := by
  by_cases h0 : 0 < ws.length
  · obtain ⟨vo, vc, rfl⟩ := Holds.form hv
    have hcap : ws.length ≤ vc := (by
      rcases hv with ⟨h, h1, _⟩ | ⟨ad, c', h, h3, _⟩
      · omega
      · cases h; exact h3)
    obtain ⟨b1, o1, rfl, hb1, hc1⟩ := HS.at hv h0
    have hj : (Lib.join ((efbas ws).map fun s => s.data.toList) (⟨#[]⟩ : ByteArray).data.toList) = ws.flatten := by rw [efbas_data]; exact join_nil_sep ws
    have hJ := Tryz.strings_Join b1 o1 vc (efbas ws) ⟨#[]⟩ w (by
      intro j y hy
      have hjl : j < ws.length := by have := (List.getElem?_eq_some_iff.1 hy).1; simpa [efbas] using this
      rw [hc1 j hjl]
      simp [efbas, hjl] at hy
      rw [hy]) hb1 (by rw [efbas_length]; omega) (by rw [efbas_length]; exact hcap) (by rw [hj]; omega)
    rw [hj, efbas_length] at hJ
    clear hc1 hj hv
    go_enter Tryz.func13, Tryz.ntmps13
    go_wp2_with fail
    refine hJ.mono ?_
    rintro e w1 ⟨rfl, hb⟩
    go_wp2
    go_ret
    exact ⟨rfl, hb⟩
  · obtain rfl := List.eq_nil_of_length_eq_zero (by omega : ws.length = 0)
    obtain ⟨vo, vc, rfl⟩ := Holds.form hv
    go_enter Tryz.func13, Tryz.ntmps13
    go_wp2_with fail
    refine (Tryz.strings_Join_none vo vc ⟨#[]⟩ _).mono ?_
    rintro e w1 ⟨rfl, rfl⟩
    go_wp2
    go_ret
    exact ⟨rfl, Below.refl _ _⟩
end Go.Proofs.YtnlbjknfahhfaaaGreatDoor
