/-
  Texts that belong together, joined: NoM2, NoM3, NoPr, NoLen, NoWs, NcW, PtL, NcL, NoRd, NoPk, NoMk, NpE, NoM4.
-/
import Derived.Test.YtgiojkhmkeocfaaGreatDoorPartA6
import Derived.Test.YtgiojkhmkeocfaaGreatDoorPartA4
import Derived.Shelf.Strings.BuilderK
import Derived.Test.YtgiojkhmkeocfaaGreatDoorProg
import Derived.Test.YtgiojkhmkeocfaaGreatDoorPartA5
import Derived.Lib.AppendIntMem
import Derived.Lib.FrozenHead2
import Derived.Deep.CutBlock
import Derived.Deep.RegionHeld3
import Derived.WalkLawsBesides

/- What is written in the normal form is read as the hunks without context; plain mathematics. -/
set_option maxRecDepth 20000
namespace Go.Proofs.YtgiojkhmkeocfaaGreatDoor
open Ln

/-- bytes of numbers and ranges -/
def numC (c : UInt8) : Bool := Pn.digB c || c == 44
theorem itoa_dig {n : Int} (h : 0 ≤ n) : ∀ c ∈ Lib.itoa n, Pn.digB c = true := by
  intro c hc
  obtain ⟨m, rfl⟩ : ∃ m : Nat, n = m := ⟨n.toNat, by omega⟩
  rw [itoa_nat] at hc
  exact (List.all_eq_true.1 (dec_all m)) c hc
theorem itoa_ne {n : Int} (h : 0 ≤ n) : Lib.itoa n ≠ [] := by
  obtain ⟨m, rfl⟩ : ∃ m : Nat, n = m := ⟨n.toNat, by omega⟩
  rw [itoa_nat]
  exact dec_ne m
theorem rng_num {p n : Int} (hp : 0 ≤ p) (hn : 1 ≤ n) : ∀ c ∈ rngT p n, numC c = true := by
  intro c hc
  unfold rngT at hc
  unfold numC
  split at hc
  · rw [itoa_dig (by omega) c hc]; rfl
  · rcases List.mem_append.1 hc with hc | hc
    · rw [itoa_dig (by omega) c hc]; rfl
    · rcases List.mem_cons.1 hc with rfl | hc
      · simp
      · rw [itoa_dig (by omega) c hc]; rfl
theorem dig_facts {c : UInt8} (h : Pn.digB c = true) : isC c = false ∧ isK c = false ∧ c ≠ 10 ∧ c ≠ 92 := by
  have h1 := Pn.digB_out h
  refine ⟨?_, ?_, ?_, ?_⟩
  · unfold isC
    simp only [Bool.or_eq_false_iff, beq_eq_false_iff_ne]
    refine ⟨⟨?_, ?_⟩, ?_⟩ <;> (rintro rfl; simp at h1)
  · unfold isK
    rw [beq_eq_false_iff_ne]
    rintro rfl
    simp at h1
  · rintro rfl
    simp at h1
  · rintro rfl
    simp at h1
theorem num_facts {c : UInt8} (h : numC c = true) : isC c = false ∧ c ≠ 10 ∧ c ≠ 92 := by
  unfold numC at h
  rcases Bool.or_eq_true_iff.1 h with h | h
  · have := dig_facts h
    exact ⟨this.1, this.2.2.1, this.2.2.2⟩
  · have : c = 44 := by simpa using h
    subst this
    decide
theorem spB_app {q : UInt8 → Bool} {x y : List UInt8} {d : UInt8} (hx : ∀ c ∈ x, q c = false) (hd : q d = true) : spB q (x ++ d :: y) = some (x, d, y) := by
  induction x with
  | nil => simp [spB, hd]
  | cons c x ih =>
    simp only [List.cons_append, spB]
    rw [if_neg (by rw [hx c (by simp)]; decide), ih fun z hz => hx z (by simp [hz])]
theorem spB_none {q : UInt8 → Bool} {x : List UInt8} (hx : ∀ c ∈ x, q c = false) : spB q x = none := by
  induction x with
  | nil => rfl
  | cons c x ih =>
    simp only [spB]
    rw [if_neg (by rw [hx c (by simp)]; decide), ih fun z hz => hx z (by simp [hz])]
theorem lnsP_rng {p n : Int} (hp : 0 ≤ p) (hn : 1 ≤ n) (hb : p + n ≤ 2147483647) : lnsP (rngT p n) = some (p + 1, n) := by
  unfold rngT
  by_cases h1 : n = 1
  · rw [if_pos h1]
    unfold lnsP
    rw [spB_none (fun c hc => (dig_facts (itoa_dig (by omega) c hc)).2.1)]
    obtain ⟨e1, e2⟩ := parse_itoa_ok (n := p + 1) (by omega) (by omega)
    have hc : Pn.parseE (Lib.itoa (p + 1)) = 0 ∧ 1 ≤ Pn.parseV (Lib.itoa (p + 1)) := ⟨e2, by rw [e1]; omega⟩
    simp only
    rw [if_pos hc, e1, h1]
  · rw [if_neg h1]
    unfold lnsP
    rw [spB_app (fun c hc => (dig_facts (itoa_dig (by omega) c hc)).2.1) (by decide)]
    obtain ⟨e1, e2⟩ := parse_itoa_ok (n := p + 1) (by omega) (by omega)
    obtain ⟨e3, e4⟩ := parse_itoa_ok (n := p + n) (by omega) (by omega)
    have hc : Pn.parseE (Lib.itoa (p + 1)) = 0 ∧ Pn.parseE (Lib.itoa (p + n)) = 0 ∧ 1 ≤ Pn.parseV (Lib.itoa (p + 1)) ∧ Pn.parseV (Lib.itoa (p + 1)) < Pn.parseV (Lib.itoa (p + n)) := ⟨e2, e4, by rw [e1]; omega, by rw [e1, e3]; omega⟩
    simp only
    rw [if_pos hc, e1, e3]
    congr 2
    omega
theorem oneP_itoa {n : Int} (h : 0 ≤ n) (hb : n ≤ 2147483647) : oneP (Lib.itoa n) = some (n, 0) := by
  unfold oneP
  obtain ⟨e1, e2⟩ := parse_itoa_ok h hb
  rw [if_pos e2, e1]
/-- the numbers that a hunk without context says -/
def noA (p n : Int) : Int := if 0 < n then p + 1 else p
theorem cmd_back {c : Ch} (hn : numB c = true) (hA : c.A + c.AN ≤ 2147483647) (hB : c.B + c.BN ≤ 2147483647) : cmdP (cmdT c) = some (noA c.A c.AN, c.AN, noA c.B c.BN, c.BN) := by
  have h := (numB_iff c).1 hn
  unfold cmdT cmdP noA
  by_cases h1 : c.AN = 0
  · have hb : 0 < c.BN := by omega
    rw [if_pos h1, spB_app (fun x hx => (dig_facts (itoa_dig (by omega) x hx)).1) (by decide)]
    simp only [if_true]
    rw [if_neg (by decide), oneP_itoa (by omega) (by omega), lnsP_rng (by omega) (by omega) hB, h1, if_pos hb]
    rfl
  · have ha : 0 < c.AN := by omega
    rw [if_neg h1, if_pos ha]
    by_cases h2 : c.BN = 0
    · rw [if_pos h2, spB_app (fun x hx => (num_facts (rng_num (by omega) (by omega) x hx)).1) (by decide)]
      simp only [if_true]
      rw [if_neg (by decide), lnsP_rng (by omega) (by omega) hA, oneP_itoa (by omega) (by omega), h2]
      rfl
    · have hb : 0 < c.BN := by omega
      rw [if_neg h2, spB_app (fun x hx => (num_facts (rng_num (by omega) (by omega) x hx)).1) (by decide)]
      simp only
      rw [if_neg (by decide), if_neg (by decide), lnsP_rng (by omega) (by omega) hA, lnsP_rng (by omega) (by omega) hB, if_pos hb]
theorem cmd_bytes {c : Ch} (hn : numB c = true) : (∀ x ∈ cmdT c, x ≠ 10) ∧ ∃ y t, cmdT c = y :: t ∧ y ≠ 92 := by
  have h := (numB_iff c).1 hn
  have hd : ∀ (n : Int) (t : List UInt8), 0 ≤ n → ∃ y u, Lib.itoa n ++ t = y :: u ∧ y ≠ 92 := by
    intro n t h0
    cases hq : Lib.itoa n with
    | nil => exact absurd hq (itoa_ne h0)
    | cons y u =>
      refine ⟨y, u ++ t, rfl, ?_⟩
      exact (dig_facts (itoa_dig h0 y (by rw [hq]; simp))).2.2.2
  have hr : ∀ (p n : Int) (t : List UInt8), 0 ≤ p → ∃ y u, rngT p n ++ t = y :: u ∧ y ≠ 92 := by
    intro p n t h0
    unfold rngT
    split
    · exact hd _ _ (by omega)
    · rw [List.append_assoc]
      exact hd _ _ (by omega)
  unfold cmdT
  split
  · rename_i h1
    refine ⟨?_, hd _ _ (by omega)⟩
    intro x hx
    rcases List.mem_append.1 hx with hx | hx
    · exact (dig_facts (itoa_dig (by omega) x hx)).2.2.1
    · rcases List.mem_cons.1 hx with rfl | hx
      · decide
      · exact (num_facts (rng_num (by omega) (by omega) x hx)).2.1
  · split
    · refine ⟨?_, hr _ _ _ (by omega)⟩
      intro x hx
      rcases List.mem_append.1 hx with hx | hx
      · exact (num_facts (rng_num (by omega) (by omega) x hx)).2.1
      · rcases List.mem_cons.1 hx with rfl | hx
        · decide
        · exact (dig_facts (itoa_dig (by omega) x hx)).2.2.1
    · refine ⟨?_, hr _ _ _ (by omega)⟩
      intro x hx
      rcases List.mem_append.1 hx with hx | hx
      · exact (num_facts (rng_num (by omega) (by omega) x hx)).2.1
      · rcases List.mem_cons.1 hx with rfl | hx
        · decide
        · exact (num_facts (rng_num (by omega) (by omega) x hx)).2.1
/-- lines that all are lines, and have their line feed but for the last one -/
def Rows : List (List UInt8) → Prop
  | [] => True
  | x :: r => linB x = true ∧ (r ≠ [] → fdB x = true) ∧ Rows r
theorem lin_no {x : List UInt8} (h : linB x = true) : x ≠ [] ∧ ∀ c ∈ x.dropLast, c ≠ 10 := by
  unfold linB at h
  simp only [Bool.and_eq_true] at h
  refine ⟨?_, fun c hc => ?_⟩
  · rintro rfl
    simp at h
  · have := (List.all_eq_true.1 h.2) c hc
    simpa using this
theorem fd_form {x : List UInt8} (h : fdB x = true) : x = x.dropLast ++ [10] := by
  unfold fdB at h
  have h1 : x.getLast? = some 10 := by simpa using h
  obtain ⟨q, rfl⟩ := List.getLast?_eq_some_iff.1 h1
  simp
theorem fd_app {ah x : List UInt8} (h : fdB x = true) : fdB (ah ++ x) = true ∧ (ah ++ x).dropLast = ah ++ x.dropLast := by
  have e := fd_form h
  rw [e, ← List.append_assoc]
  refine ⟨fd_snoc _, ?_⟩
  simp
theorem rd_back (ah : List UInt8) (S : Int) (xs : List (List UInt8)) : ∀ (p : Nat) (rest : List (List UInt8)), Rows xs → pkM rest = false → ∃ p', rdN ah S xs.length p (xs.flatMap (lnL ah) ++ rest) = .ok (mks S xs, p', rest) := by
  induction xs with
  | nil => intro p rest _ _; exact ⟨p, rfl⟩
  | cons x xs ih =>
    intro p rest hR hp
    obtain ⟨h1, h2, h3⟩ := hR
    simp only [List.length_cons, rdN, List.flatMap_cons, List.append_assoc]
    cases hf : fdB x with
    | true =>
      have hl : lnL ah x = [ah ++ x] := by unfold lnL; rw [if_pos hf]
      obtain ⟨e1, e2⟩ := fd_app (ah := ah) hf
      have hm : mkd ah (xs.length == 0) p ([ah ++ x] ++ (xs.flatMap (lnL ah) ++ rest)) = .ok (x, p + 1, xs.flatMap (lnL ah) ++ rest) := by
        unfold mkd
        simp only [List.singleton_append, nxt, e1, if_true, e2]
        rw [if_pos (by simp), if_neg ?_]
        · simp only [List.drop_left]
          rw [← fd_form hf]
        · cases xs with
          | nil => simp [hp]
          | cons y ys => simp
      rw [hl, hm]
      obtain ⟨p', hq⟩ := ih (p + 1) rest h3 hp
      simp only [hq]
      exact ⟨p', rfl⟩
    | false =>
      have hx : xs = [] := by
        cases xs with
        | nil => rfl
        | cons y ys => have := h2 (by simp); rw [hf] at this; cases this
      subst hx
      have hl : lnL ah x = [ah ++ x ++ [10], markT] := by unfold lnL; rw [if_neg (by rw [hf]; decide)]
      have hm : mkd ah (([] : List (List UInt8)).length == 0) p ([ah ++ x ++ [10], markT] ++ (([] : List (List UInt8)).flatMap (lnL ah) ++ rest)) = .ok (x, p + 2, rest) := by
        unfold mkd
        simp only [List.cons_append, List.nil_append, nxt, fd_snoc, if_true, List.dropLast_concat]
        rw [if_pos (by simp), if_pos (by simp [pkM]), if_neg (by simp only [List.drop_left]; exact (lin_no h1).1)]
        simp
      rw [hl, hm]
      exact ⟨p + 2, rfl⟩
/-- behind old lines there is no mark -/
theorem pk_new {ah : List UInt8} {xs rest : List (List UInt8)} (ha : ah.head? = some 62) (hp : pkM rest = false) : pkM (xs.flatMap (lnL ah) ++ rest) = false := by
  cases xs with
  | nil => exact hp
  | cons x xs =>
    cases ah with
    | nil => cases ha
    | cons y ah =>
      simp only [List.head?_cons, Option.some.injEq] at ha
      subst ha
      rw [List.flatMap_cons, lnL]
      split <;> rfl
/-- a change is read as its hunk -/
theorem hk_back {a b : List (List UInt8)} {c : Ch} {k p : Nat} {rest : List (List UInt8)} (hn : numB c = true) (hA : c.A + c.AN ≤ 2147483647) (hB : c.B + c.BN ≤ 2147483647) (hAl : (cut a c.A c.AN).length = c.AN.toNat) (hBl : (cut b c.B c.BN).length = c.BN.toNat) (hRa : Rows (cut a c.A c.AN)) (hRb : Rows (cut b c.B c.BN)) (hk : k < 4096) (hp : pkM rest = false) : ∃ p', hkP k p (chgL a b c ++ rest) = .ok (⟨noA c.A c.AN, c.AN, noA c.B c.BN, c.BN, mks 45 (cut a c.A c.AN) ++ mks 43 (cut b c.B c.BN)⟩, p', rest) := by
  have hb := pk_new (ah := [62, 32]) (xs := cut b c.B c.BN) (rest := rest) (by decide) hp
  have hs : pkM (sepL c ++ ((cut b c.B c.BN).flatMap (lnL [62, 32]) ++ rest)) = false := by
    unfold sepL
    split
    · rfl
    · exact hb
  obtain ⟨p1, h1⟩ := rd_back [60, 32] 45 (cut a c.A c.AN) (p + 1) (sepL c ++ ((cut b c.B c.BN).flatMap (lnL [62, 32]) ++ rest)) hRa hs
  have h2 : ∃ p2, (if 0 < c.AN ∧ 0 < c.BN then sepP p1 (sepL c ++ ((cut b c.B c.BN).flatMap (lnL [62, 32]) ++ rest)) else .ok (p1, sepL c ++ ((cut b c.B c.BN).flatMap (lnL [62, 32]) ++ rest))) = .ok (p2, (cut b c.B c.BN).flatMap (lnL [62, 32]) ++ rest) := by
    unfold sepL
    by_cases hq : 0 < c.AN ∧ 0 < c.BN
    · rw [if_pos hq, if_pos hq]
      refine ⟨p1 + 1, ?_⟩
      unfold sepP
      rfl
    · rw [if_neg hq, if_neg hq]
      exact ⟨p1, rfl⟩
  obtain ⟨p2, h2⟩ := h2
  obtain ⟨p3, h3⟩ := rd_back [62, 32] 43 (cut b c.B c.BN) p2 rest hRb hp
  refine ⟨p3, ?_⟩
  rw [hAl] at h1
  rw [hBl] at h3
  unfold hkP chgL
  simp only [List.cons_append, nxt, fd_snoc, if_true, List.dropLast_concat, cmd_back hn hA hB, List.append_assoc]
  rw [if_neg (by omega)]
  simp only [h1, h2, h3]
end Go.Proofs.YtgiojkhmkeocfaaGreatDoor

/- The normal form of an edit script: read again it is the hunks without context; a part of it is never read as the whole; plain mathematics. -/
set_option maxRecDepth 20000
namespace Go.Proofs.YtgiojkhmkeocfaaGreatDoor
open Ln

theorem rows_of {a : List (List UInt8)} (h : checkB a = true) : Rows a := by
  induction a with
  | nil => trivial
  | cons s t ih =>
    simp only [checkB, Bool.and_eq_true] at h
    have h1 := h.1
    rw [lineB_eq] at h1
    simp only [Bool.and_eq_true, Bool.or_eq_true] at h1
    refine ⟨h1.1, fun hne => ?_, ih h.2⟩
    rcases h1.2 with h2 | h2
    · cases t with
      | nil => exact absurd rfl hne
      | cons => cases h2
    · exact h2
theorem rows_drop {a : List (List UInt8)} (n : Nat) (h : Rows a) : Rows (a.drop n) := by
  induction n generalizing a with
  | zero => exact h
  | succ n ih =>
    cases a with
    | nil => trivial
    | cons s t => exact ih h.2.2
theorem rows_take {a : List (List UInt8)} (n : Nat) (h : Rows a) : Rows (a.take n) := by
  induction n generalizing a with
  | zero => trivial
  | succ n ih =>
    cases a with
    | nil => trivial
    | cons s t =>
      refine ⟨h.1, fun hne => h.2.1 fun e => ?_, ih h.2.2⟩
      subst e
      simp at hne
theorem rows_cut {a : List (List UInt8)} (h : checkB a = true) (p n : Int) : Rows (cut a p n) := rows_take _ (rows_drop _ (rows_of h))
theorem rows_lin {a : List (List UInt8)} (h : Rows a) : ∀ x ∈ a, linB x = true := by
  induction a with
  | nil => intro x hx; cases hx
  | cons s t ih =>
    intro x hx
    rcases List.mem_cons.1 hx with rfl | hx
    · exact h.1
    · exact ih h.2.2 x hx
theorem npk_mks {no sg : Int} (t : List (List UInt8)) : pkL no (mks sg t) = if sg ≠ no ∧ okS sg = true then t else [] := by
  induction t with
  | nil => simp [mks, pkL]
  | cons s t ih =>
    have e : mks sg (s :: t) = ⟨sg, s⟩ :: mks sg t := rfl
    rw [e, pkL, ih]
    split <;> rfl
/-- the hunk of one change without context -/
theorem one_zero {a b : List (List UInt8)} {c : Ch} (hn : numB c = true) (hA : c.A + c.AN ≤ a.length) (hB : c.B + c.BN ≤ b.length) : oneH a b 0 [c] = ⟨noA c.A c.AN, c.AN, noA c.B c.BN, c.BN, mks 45 (cut a c.A c.AN) ++ mks 43 (cut b c.B c.BN)⟩ := by
  have h := (numB_iff c).1 hn
  have e : bodyH a b (min (a.length : Int) (c.A + c.AN + 0)) (c.A - min 0 c.A) [c] = mks 45 (cut a c.A c.AN) ++ mks 43 (cut b c.B c.BN) := by
    rw [show min (a.length : Int) (c.A + c.AN + 0) = c.A + c.AN by omega, show c.A - min 0 c.A = c.A by omega]
    simp only [bodyH]
    rw [show c.A - c.A = (0 : Int) by omega, show c.A + c.AN - (c.A + c.AN) = (0 : Int) by omega, cut_zero, cut_zero]
    simp [mks]
  have l1 : ((cut a c.A c.AN).length : Int) = c.AN := hcut_length (by omega) (by omega) hA
  have l2 : ((cut b c.B c.BN).length : Int) = c.BN := hcut_length (by omega) (by omega) hB
  have p1 : pkL 43 (mks 45 (cut a c.A c.AN) ++ mks 43 (cut b c.B c.BN)) = cut a c.A c.AN := by
    rw [pkL_append, npk_mks, npk_mks, if_pos (by decide), if_neg (by decide), List.append_nil]
  have p2 : pkL 45 (mks 45 (cut a c.A c.AN) ++ mks 43 (cut b c.B c.BN)) = cut b c.B c.BN := by
    rw [pkL_append, npk_mks, npk_mks, if_neg (by decide), if_pos (by decide), List.nil_append]
  show cntH (c.A - min 0 c.A) (c.B - min 0 c.A) (bodyH a b (min (a.length : Int) (c.A + c.AN + 0)) (c.A - min 0 c.A) [c]) = _
  rw [e]
  unfold cntH noA
  rw [p1, p2, l1, l2, show c.A - min 0 c.A = c.A by omega, show c.B - min 0 c.A = c.B by omega]
  have q1 : (0 < (cut a c.A c.AN).length) = (0 < c.AN) := propext ⟨fun q => by omega, fun q => by omega⟩
  have q2 : (0 < (cut b c.B c.BN).length) = (0 < c.BN) := propext ⟨fun q => by omega, fun q => by omega⟩
  simp only [q1, q2]
theorem right_mem {fl : Bool} {p q n m : Int} {l : List Ch} (h : Right fl p q n m l) : ∀ c ∈ l, numB c = true ∧ c.A + c.AN ≤ n ∧ c.B + c.BN ≤ m := by
  induction l generalizing fl p q with
  | nil => intro c hc; cases hc
  | cons x l ih =>
    intro c hc
    rcases List.mem_cons.1 hc with rfl | hc
    · exact ⟨h.1.1, h.2.le.1, h.2.le.2.1⟩
    · exact ih h.2 c hc
theorem mk_zero {l : List Ch} {a b : List (List UInt8)} (hs : Script l a.length b.length) : mkR l a b 0 = l.map fun c => oneH a b 0 [c] := by
  rw [(mkR_eq hs (by omega)).1, grp_zero l _ _ _ _ _ hs.2.2]
  simp
theorem pk_prt {l : List Ch} {a b : List (List UInt8)} (h : ∀ c ∈ l, numB c = true) : pkM (prtL l a b) = false := by
  cases l with
  | nil => rfl
  | cons c l =>
    obtain ⟨_, y, t, e, hy⟩ := cmd_bytes (h c (by simp))
    unfold prtL
    rw [List.flatMap_cons, chgL, e]
    simp only [List.cons_append, pkM, markT, List.isPrefixOf]
    have : ((92 : UInt8) == y) = false := by rw [beq_eq_false_iff_ne]; exact fun q => hy q.symm
    rw [this]
    rfl
/-- what was written is read again -/
theorem hks_back {a b : List (List UInt8)} (ha : checkB a = true) (hb : checkB b = true) (hal : a.length ≤ 2147483647) (hbl : b.length ≤ 2147483647) (l : List Ch) : ∀ (f k p : Nat), (∀ c ∈ l, numB c = true ∧ c.A + c.AN ≤ a.length ∧ c.B + c.BN ≤ b.length) → k + l.length ≤ 4096 → (prtL l a b).length ≤ f → hksP f k p (prtL l a b) = .ok (l.map fun c => oneH a b 0 [c]) := by
  induction l with
  | nil =>
    intro f k p _ _ _
    cases f <;> rfl
  | cons c l ih =>
    intro f k p h hk hf
    have hc := h c (by simp)
    have hn := (numB_iff c).1 hc.1
    have e : prtL (c :: l) a b = chgL a b c ++ prtL l a b := rfl
    rw [e] at hf ⊢
    have l1 : ((cut a c.A c.AN).length : Int) = c.AN := hcut_length (by omega) (by omega) hc.2.1
    have l2 : ((cut b c.B c.BN).length : Int) = c.BN := hcut_length (by omega) (by omega) hc.2.2
    obtain ⟨p', hh⟩ := hk_back (k := k) (p := p) (rest := prtL l a b) hc.1 (by omega) (by omega) (by omega) (by omega) (rows_cut ha c.A c.AN) (rows_cut hb c.B c.BN) (by simp at hk; omega) (pk_prt fun x hx => (h x (by simp [hx])).1)
    have hlen : 1 ≤ (chgL a b c).length := by simp [chgL]
    rw [List.length_append] at hf
    cases f with
    | zero => omega
    | succ f =>
      have hi := ih f (k + 1) p' (fun x hx => h x (by simp [hx])) (by simp at hk; omega) (by omega)
      simp only [hksP]
      rw [if_neg (by simp [chgL]), hh]
      simp only [hi]
      simp only [List.map_cons]
      rw [one_zero hc.1 hc.2.1 hc.2.2]
/-- all lines that are written have their line feed, at the end alone -/
def Fed (ls : List (List UInt8)) : Prop := ∀ s ∈ ls, ∃ t, s = t ++ [10] ∧ ∀ c ∈ t, c ≠ 10
theorem fed_check {ls : List (List UInt8)} (h : Fed ls) : checkB ls = true := by
  induction ls with
  | nil => rfl
  | cons s r ih =>
    obtain ⟨t, e, ht⟩ := h s (by simp)
    simp only [checkB, Bool.and_eq_true]
    refine ⟨?_, ih fun x hx => h x (by simp [hx])⟩
    rw [e]
    exact lineB_cut ht _
theorem fed_line {ah x : List UInt8} (ha : ∀ c ∈ ah, c ≠ 10) (hx : linB x = true) : Fed (lnL ah x) := by
  obtain ⟨h0, h1⟩ := lin_no hx
  unfold lnL
  split
  · rename_i hf
    intro s hs
    rw [List.mem_singleton.1 hs]
    refine ⟨ah ++ x.dropLast, ?_, ?_⟩
    · rw [List.append_assoc, ← fd_form hf]
    · intro c hc
      rcases List.mem_append.1 hc with hc | hc
      · exact ha c hc
      · exact h1 c hc
  · rename_i hf
    intro s hs
    rcases List.mem_cons.1 hs with rfl | hs
    · refine ⟨ah ++ x, rfl, ?_⟩
      intro c hc
      rcases List.mem_append.1 hc with hc | hc
      · exact ha c hc
      · intro e
        subst e
        rcases List.eq_nil_or_concat x with rfl | ⟨q, y, rfl⟩
        · cases hc
        · rw [List.concat_eq_append] at hc hf h1
          rcases List.mem_append.1 hc with hc | hc
          · exact h1 10 (by simpa using hc) rfl
          · have : y = 10 := (List.mem_singleton.1 hc).symm
            subst this
            exact hf (fd_snoc q)
    · rw [List.mem_singleton.1 hs]
      refine ⟨markT.dropLast, rfl, ?_⟩
      decide
theorem fed_prt {a b : List (List UInt8)} (ha : checkB a = true) (hb : checkB b = true) {l : List Ch} (h : ∀ c ∈ l, numB c = true) : Fed (prtL l a b) := by
  intro s hs
  obtain ⟨c, hc, hs⟩ := List.mem_flatMap.1 hs
  unfold chgL at hs
  rcases List.mem_cons.1 hs with rfl | hs
  · exact ⟨cmdT c, rfl, (cmd_bytes (h c hc)).1⟩
  · rcases List.mem_append.1 hs with hs | hs
    · obtain ⟨x, hx, hs⟩ := List.mem_flatMap.1 hs
      exact fed_line (by decide) (rows_lin (rows_cut ha c.A c.AN) x hx) s hs
    · rcases List.mem_append.1 hs with hs | hs
      · unfold sepL at hs
        split at hs
        · rw [List.mem_singleton.1 hs]
          exact ⟨[45, 45, 45], rfl, by decide⟩
        · cases hs
      · obtain ⟨x, hx, hs⟩ := List.mem_flatMap.1 hs
        exact fed_line (by decide) (rows_lin (rows_cut hb c.B c.BN) x hx) s hs
theorem split_prt {a b : List (List UInt8)} (ha : checkB a = true) (hb : checkB b = true) {l : List Ch} (h : ∀ c ∈ l, numB c = true) : splitL (prtT l a b) = prtL l a b := right_split _ (fed_check (fed_prt ha hb h))
/-- 12.3: what is written of right lines is read as the hunks without context -/
theorem normal_back {l : List Ch} {a b : List (List UInt8)} (hs : Script l a.length b.length) (ha : checkB a = true) (hb : checkB b = true) (hal : a.length ≤ 1000000) (hbl : b.length ≤ 1000000) (hl : l.length ≤ 4096) : prsT (prtT l a b) = if 1048576 < (prtT l a b).length then .error (0, 9) else .ok (mkR l a b 0) := by
  have hm := right_mem hs.2.2
  unfold prsT
  rw [split_prt ha hb fun c hc => (hm c hc).1, hks_back ha hb (by omega) (by omega) l _ 0 0 hm (by omega) (Nat.le_refl _), mk_zero hs]
/-- what was read had its line feeds -/
def Alf (c : List (List UInt8)) : Prop := ∀ s ∈ c, fdB s = true
theorem alf_app {x y : List (List UInt8)} (hx : Alf x) (hy : Alf y) : Alf (x ++ y) := fun s hs => (List.mem_append.1 hs).elim (hx s) (hy s)
theorem mark_fed {s : List UInt8} (hp : ∀ c ∈ s.dropLast, c ≠ 10) (h : markT.isPrefixOf s = true) : fdB s = true := by
  obtain ⟨t, rfl⟩ := List.isPrefixOf_iff_prefix.1 h
  cases t with
  | nil => rfl
  | cons x t =>
    exfalso
    refine hp 10 ?_ rfl
    rw [List.dropLast_append_of_ne_nil (by simp)]
    exact List.mem_append_left _ (by decide)
theorem nxt_fed {p : Nat} {ls r : List (List UInt8)} {s : List UInt8} (h : nxt p ls = .ok (s, r)) : ∃ c, ls = c ++ r ∧ Alf c := by
  refine ⟨[s ++ [10]], nxt_ok h, ?_⟩
  intro x hx
  rw [List.mem_singleton.1 hx]
  exact fd_snoc s
theorem mkd_fed {sg : List UInt8} {last : Bool} {p p1 : Nat} {ls r : List (List UInt8)} {t : List UInt8} (hP : Plain ls) (h : mkd sg last p ls = .ok (t, p1, r)) : ∃ c, ls = c ++ r ∧ Alf c := by
  unfold mkd at h
  split at h
  · cases h
  · rename_i s r0 hn
    obtain ⟨c, e, hc⟩ := nxt_fed hn
    split at h
    · split at h
      · rename_i hl
        split at h
        · cases h
        · cases h
          simp only [Bool.and_eq_true] at hl
          cases r0 with
          | nil => simp [pkM] at hl
          | cons y r0 =>
            refine ⟨c ++ [y], by rw [e]; simp, alf_app hc ?_⟩
            intro x hx
            rw [List.mem_singleton.1 hx]
            exact mark_fed (hP y (by rw [e]; simp)) hl.2
      · cases h
        exact ⟨c, e, hc⟩
    · cases h
theorem rdN_fed {sg : List UInt8} {S : Int} (n : Nat) : ∀ {p p1 : Nat} {ls r : List (List UInt8)} {l : List Mk}, Plain ls → rdN sg S n p ls = .ok (l, p1, r) → ∃ c, ls = c ++ r ∧ Alf c := by
  induction n with
  | zero =>
    intro p p1 ls r l hP h
    simp only [rdN] at h
    cases h
    exact ⟨[], rfl, fun s hs => by cases hs⟩
  | succ n ih =>
    intro p p1 ls r l hP h
    simp only [rdN] at h
    split at h
    · cases h
    · rename_i t q1 r1 hm
      obtain ⟨c1, e1, hc1⟩ := mkd_fed hP hm
      have hP1 := (mkd_ok hP hm).2.2.1
      split at h
      · cases h
      · rename_i l' q2 r2 hr
        obtain ⟨c2, e2, hc2⟩ := ih hP1 hr
        cases h
        exact ⟨c1 ++ c2, by rw [e1, e2]; simp, alf_app hc1 hc2⟩
theorem hkP_fed {k p p1 : Nat} {ls r : List (List UInt8)} {h : Hk} (hP : Plain ls) (hh : hkP k p ls = .ok (h, p1, r)) : ∃ c, ls = c ++ r ∧ Alf c := by
  unfold hkP at hh
  split at hh
  · cases hh
  · rename_i s r0 hn
    obtain ⟨c0, e0, hc0⟩ := nxt_fed hn
    have hP0 := (nxt_len hP hn).2
    split at hh
    · cases hh
    · rename_i A AN B BN hc
      split at hh
      · cases hh
      · split at hh
        · cases hh
        · rename_i l1 q1 r1 h1
          obtain ⟨c1, e1, hc1⟩ := rdN_fed _ hP0 h1
          have hP1 := (rdN_ok _ hP0 h1).2.2.2.1
          split at hh
          · cases hh
          · rename_i q2 r2 h2
            have hs : (∃ c, r1 = c ++ r2 ∧ Alf c) ∧ Plain r2 := (by
              split at h2
              · unfold sepP at h2
                split at h2
                · cases h2
                · rename_i s3 r3 hn3
                  split at h2
                  · cases h2
                    exact ⟨nxt_fed hn3, (nxt_len hP1 hn3).2⟩
                  · cases h2
              · cases h2
                exact ⟨⟨[], rfl, fun s hs => by cases hs⟩, hP1⟩)
            obtain ⟨⟨c2, e2, hc2⟩, hP2⟩ := hs
            split at hh
            · cases hh
            · rename_i l2 q3 r3 h3
              obtain ⟨c3, e3, hc3⟩ := rdN_fed _ hP2 h3
              cases hh
              exact ⟨c0 ++ (c1 ++ (c2 ++ c3)), by rw [e0, e1, e2, e3]; simp, alf_app hc0 (alf_app hc1 (alf_app hc2 hc3))⟩
theorem hksP_fed (f : Nat) : ∀ {k p : Nat} {ls : List (List UInt8)} {l : List Hk}, Plain ls → ls.length ≤ f → hksP f k p ls = .ok l → Alf ls := by
  induction f with
  | zero =>
    intro k p ls l hP hf h
    have : ls = [] := List.eq_nil_of_length_eq_zero (by omega)
    subst this
    intro s hs
    cases hs
  | succ f ih =>
    intro k p ls l hP hf h
    simp only [hksP] at h
    split at h
    · rename_i he
      subst he
      intro s hs
      cases hs
    · split at h
      · cases h
      · rename_i hk q1 r1 h1
        obtain ⟨a1, a2, a3⟩ := hkP_ok hP h1
        obtain ⟨c, e, hc⟩ := hkP_fed hP h1
        have hpos : 0 < hkC1 hk := by unfold hkC1; omega
        split at h
        · cases h
        · rename_i l' h2
          have := ih a3 (by omega) h2
          rw [e]
          exact alf_app hc this
/-- what is read ends with a line feed -/
theorem prs_feed {t : List UInt8} {l : List Hk} (h : prsT t = .ok l) : t = [] ∨ fdB t = true := by
  unfold prsT at h
  split at h
  · cases h
  · have hf := hksP_fed _ (split_plain t) (Nat.le_refl _) h
    have hj := split_join t
    cases hq : splitL t with
    | nil => left; exact split_nil hq
    | cons x r =>
      right
      rw [hq] at hj hf
      have hl : ∀ (x : List UInt8) (r : List (List UInt8)), Alf (x :: r) → fdB (x :: r).flatten = true := by
        intro x r
        induction r generalizing x with
        | nil =>
          intro h1
          have := h1 x (by simp)
          simpa using this
        | cons y r ih =>
          intro h1
          have := ih y fun s hs => h1 s (by simp [hs])
          rw [List.flatten_cons]
          exact (fd_app this).1
      rw [← hj]
      exact hl x r hf
theorem prs_count {t : List UInt8} {l : List Hk} (h : prsT t = .ok l) : hksC l = (splitL t).length := by
  unfold prsT at h
  split at h
  · cases h
  · exact hksP_ok _ (split_plain t) (Nat.le_refl _) h
/-- a part of what is written is never read as the whole -/
theorem normal_cut {s : List UInt8} {l : List Hk} (hw : prsT s = .ok l) {k : Nat} (hk : k < s.length) : prsT (s.take k) ≠ .ok l := by
  intro hp
  have c1 := prs_count hw
  have c2 := prs_count hp
  have f1 := prs_feed hw
  have f2 := prs_feed hp
  have g1 := split_count s
  have g2 := split_count (s.take k)
  have hfb : ∀ x : List UInt8, feedB x = fdB x := fun x => rfl
  have hs : s ≠ [] := by rintro rfl; simp at hk
  have e1 : (feedB s || s.isEmpty) = true := by
    rcases f1 with f1 | f1
    · exact absurd f1 hs
    · rw [hfb, f1]; rfl
  have e2 : (feedB (s.take k) || (s.take k).isEmpty) = true := by
    rcases f2 with f2 | f2
    · rw [f2]; rfl
    · rw [hfb, f2]; rfl
  rw [e1] at g1
  rw [e2] at g2
  simp only [if_true] at g1 g2
  have g3 : s.count 10 = (s.take k).count 10 + (s.drop k).count 10 := by
    rw [← List.count_append, List.take_append_drop]
  have g4 : 0 < (s.drop k).count 10 := by
    rw [List.count_pos_iff]
    rcases f1 with f1 | f1
    · exact absurd f1 hs
    · have h1 : s.getLast? = some 10 := by simpa [fdB] using f1
      have h2 : (s.drop k).getLast? = some 10 := by
        rw [List.getLast?_drop, if_neg (by omega), h1]
      exact List.mem_of_getLast? h2
  omega
end Go.Proofs.YtgiojkhmkeocfaaGreatDoor

/- The reference's Print of the normal form, walked. -/
set_option maxRecDepth 20000
namespace Go.Proofs.YtgiojkhmkeocfaaGreatDoor
open Go.RowKit

theorem prt_more {l : List Ch} {a b : List (List UInt8)} {k : Nat} (hk : k < l.length) : prtT (l.take (k + 1)) a b = prtT (l.take k) a b ++ (chgL a b l[k]).flatten := by
  unfold prtT prtL
  rw [List.take_succ_eq_append_getElem hk, List.flatMap_append, List.flatten_append, List.flatMap_singleton]
theorem prt_pre {l : List Ch} {a b : List (List UInt8)} (k : Nat) : (prtT (l.take k) a b).length ≤ (prtT l a b).length := by
  have e : prtT l a b = prtT (l.take k) a b ++ prtT (l.drop k) a b := by
    unfold prtT prtL
    rw [← List.flatten_append, ← List.flatMap_append, List.take_append_drop]
  rw [e, List.length_append]
  omega
/-- how long what is written is -/
theorem lnL_len (ah s : List UInt8) : (lnL ah s).flatten.length ≤ ah.length + s.length + 29 := by
  unfold lnL
  split <;> simp [markT] <;> omega
theorem lns_len (ah : List UInt8) (x : List (List UInt8)) : (x.flatMap (lnL ah)).flatten.length ≤ x.length * (ah.length + 29) + x.flatten.length := by
  induction x with
  | nil => simp
  | cons s x ih =>
    have h := lnL_len ah s
    simp only [List.flatMap_cons, List.flatten_append, List.length_append, List.length_cons, List.flatten_cons]
    have e : (x.length + 1) * (ah.length + 29) = x.length * (ah.length + 29) + (ah.length + 29) := Nat.succ_mul _ _
    omega
end Go.Proofs.YtgiojkhmkeocfaaGreatDoor

/- How long the normal form of a script is; plain mathematics. -/
set_option maxRecDepth 20000
namespace Go.Proofs.YtgiojkhmkeocfaaGreatDoor

theorem cmd_len {c : Ch} (h : numB c = true) : (cmdT c).length ≤ 100 := by
  rw [numB_iff] at h
  have r1 := rng_short c.A c.AN h.1.1 (by omega) h.2.1.1 (by omega)
  have r2 := rng_short c.B c.BN h.2.2.1.1 (by omega) h.2.2.2.1.1 (by omega)
  have r3 := itoa_short c.A (by omega) (by omega)
  have r4 := itoa_short c.B (by omega) (by omega)
  unfold cmdT
  split
  · simp only [List.length_append, List.length_cons]; omega
  · split
    · simp only [List.length_append, List.length_cons]; omega
    · simp only [List.length_append, List.length_cons]; omega
theorem flat_drop {a : List (List UInt8)} {p A AN : Int} (hp : 0 ≤ p) (hA : p ≤ A) (hN : 0 ≤ AN) : (cut a A AN).flatten.length + (a.drop (A + AN).toNat).flatten.length ≤ (a.drop p.toNat).flatten.length := by
  have e1 : a.drop p.toNat = (a.drop p.toNat).take (A - p).toNat ++ a.drop A.toNat := by
    have h := (List.take_append_drop (A - p).toNat (a.drop p.toNat)).symm
    rw [List.drop_drop] at h
    have e : p.toNat + (A - p).toNat = A.toNat := by omega
    rw [e] at h
    exact h
  have e2 : a.drop A.toNat = cut a A AN ++ a.drop (A + AN).toNat := by
    have h := (List.take_append_drop AN.toNat (a.drop A.toNat)).symm
    rw [List.drop_drop] at h
    have e : A.toNat + AN.toNat = (A + AN).toNat := by omega
    rw [e] at h
    exact h
  rw [e1, e2]
  simp only [List.flatten_append, List.length_append]
  omega
theorem cut_le (a : List (List UInt8)) (p n : Int) : (cut a p n).length ≤ n.toNat := by
  unfold cut
  rw [List.length_take]
  omega
theorem chg_len {a b : List (List UInt8)} {c : Ch} (h : numB c = true) : (chgL a b c).flatten.length ≤ 105 + 31 * (c.AN.toNat + c.BN.toNat) + (cut a c.A c.AN).flatten.length + (cut b c.B c.BN).flatten.length := by
  have h1 := cmd_len h
  have h2 := lns_len [60, 32] (cut a c.A c.AN)
  have h3 := lns_len [62, 32] (cut b c.B c.BN)
  have h4 := cut_le a c.A c.AN
  have h5 := cut_le b c.B c.BN
  have h6 : (sepL c).flatten.length ≤ 4 := by
    unfold sepL
    split <;> simp
  simp only [List.length_cons, List.length_nil] at h2 h3
  simp only [chgL, List.flatten_cons, List.flatten_append, List.length_append, List.length_cons, List.length_nil]
  omega
theorem prt_len_at {a b : List (List UInt8)} {n m : Int} (l : List Ch) : ∀ {f : Bool} {p q : Int}, 0 ≤ p → 0 ≤ q → Right f p q n m l → (prtT l a b).length ≤ 105 * l.length + 31 * ((n - p).toNat + (m - q).toNat) + (a.drop p.toNat).flatten.length + (b.drop q.toNat).flatten.length := by
  induction l with
  | nil =>
    intro f p q _ _ _
    simp [prtT, prtL]
  | cons c l ih =>
    intro f p q hp hq h
    obtain ⟨⟨h1, h2, h3, _⟩, h5⟩ := h
    have hn := (numB_iff c).1 h1
    have hle := h5.le
    have g := ih (by omega) (by omega) h5
    have g1 := @chg_len a b c h1
    have g2 := @flat_drop a p c.A c.AN hp h3 hn.2.1.1
    have g3 := @flat_drop b q c.B c.BN hq (by omega) hn.2.2.2.1.1
    have e : prtT (c :: l) a b = (chgL a b c).flatten ++ prtT l a b := by simp [prtT, prtL]
    rw [e, List.length_append, List.length_cons]
    omega
/-- what is written of a right script -/
theorem prt_len {a b : List (List UInt8)} {l : List Ch} (h : Script l a.length b.length) : (prtT l a b).length ≤ 105 * l.length + 31 * (a.length + b.length) + a.flatten.length + b.flatten.length := by
  have g := @prt_len_at a b a.length b.length l true 0 0 (by omega) (by omega) h.2.2
  simpa using g
end Go.Proofs.YtgiojkhmkeocfaaGreatDoor

/- The library's contracts on a strings.Builder's WriteString and on strings.HasSuffix, TrimSuffix and CutPrefix at this program: the program bears the bodies that they speak of. -/
set_option maxRecDepth 20000
namespace Go.Proofs
open Go.Shelf Go.RowKit
def Tryz.lays166_ren : Go.Shelf.Ren := ⟨fun | 166 => 34 | 240 => 80 | 276 => 133 | n => n, fun | 0 => 0 | 3 => 3 | 4 => 4 | 5 => 5 | 9 => 9 | 20 => 20 | 37 => 75 | 70 => 74 | 72 => 77 | 75 => 36 | 80 => 85 | 164 => 143 | n => n, fun | n => n⟩
theorem Tryz.lays166 : Go.Proofs.Lays.n166 Tryz.prog Tryz.lays166_ren := {
  mixed := by kernel_rfl
  f166 := Tryz.func34.trans (congrArg some (by kernel_rfl))
  f240 := Tryz.func80.trans (congrArg some (by kernel_rfl))
  f276 := Tryz.func133.trans (congrArg some (by kernel_rfl))
  t0 := Tryz.underlying0
  a0 := Tryz.isAgg0
  z0 := Tryz.sizeOf0
  v0 := Tryz.zeroValue0
  t3 := Tryz.underlying3
  a3 := Tryz.isAgg3
  z3 := Tryz.sizeOf3
  v3 := Tryz.zeroValue3
  t4 := Tryz.underlying4
  a4 := Tryz.isAgg4
  z4 := Tryz.sizeOf4
  v4 := Tryz.zeroValue4
  t9 := Tryz.underlying9
  a9 := Tryz.isAgg9
  z9 := Tryz.sizeOf9
  v9 := Tryz.zeroValue9
  t20 := Tryz.underlying20
  a20 := Tryz.isAgg20
  z20 := Tryz.sizeOf20
  v20 := Tryz.zeroValue20
  t37 := Tryz.underlying75
  a37 := Tryz.isAgg75
  z37 := Tryz.sizeOf75
  v37 := Tryz.zeroValue75
  t70 := Tryz.underlying74
  a70 := Tryz.isAgg74
  z70 := Tryz.sizeOf74
  v70 := Tryz.zeroValue74
  t72 := Tryz.underlying77
  a72 := Tryz.isAgg77
  z72 := Tryz.sizeOf77
  v72 := Tryz.zeroValue77
  t75 := Tryz.underlying36
  a75 := Tryz.isAgg36
  z75 := Tryz.sizeOf36
  v75 := Tryz.zeroValue36
  t164 := Tryz.underlying143
  a164 := Tryz.isAgg143
  z164 := Tryz.sizeOf143
  v164 := Tryz.zeroValue143 }
theorem Tryz.Builder_Extra_166 : Builder.Extra Tryz.prog Tryz.lays166_ren := {
  sizeBuilder := by kernel_rfl
  liesBuilder := by kernel_rfl
  t5 := Tryz.underlying5
  a5 := Tryz.isAgg5
  z5 := Tryz.sizeOf5
  v5 := Tryz.zeroValue5
  infoByte := by kernel_rfl
  cellsByte := by kernel_rfl
  sizeByte := by kernel_rfl
  neB5 := by decide }
theorem Tryz.WriteString_h (B b : Nat) (bs : List Value) (s : ByteArray) (w : World) (h : Lib.IsBuilderF 77 5 B b bs w) (hlen : bs.length + s.size ≤ 140737488355328) (hBw : B ≤ w.heap.size) :
    Calls Tryz.prog 34 #[.pointer (some ⟨b, 0, none⟩), .string s] w fun e w' => e = .returned (.tuple #[.int .i64 s.size, .nilIface]) ∧ (Lib.BuilderAtF 77 5 B b (.pointer (some ⟨b, 0, none⟩)) (bs ++ Lib.strCells s) w' ∧ Below B w w' ∧ Lib.OthersKept 5 (some b) w w') :=
  Any.Builder_WriteString_k Tryz.lays166 Tryz.Builder_Extra_166 B b bs s w h hlen hBw
end Go.Proofs

/- The code's small functions of layer 12's Print, walked: numbers, ranges, letters, lines that are written. -/
set_option maxRecDepth 20000
namespace Go.Proofs.YtgiojkhmkeocfaaGreatDoor
open Go.RowKit

/-- the table of powers of ten, in every later world -/
def Tab10 (w : World) : Prop := ∀ u : World, Below w.heap.size w u → Lib.TabIs Tryz.prog u "internal/strconv.uint64pow10" .u64 Lib.pow10Tab
theorem Tab10.on {w u : World} (h : Tab10 w) (hb : Below w.heap.size w u) : Tab10 u := fun v hv => h v (hb.trans (hv.mono hb.size))
set_option maxHeartbeats 1000000 in
theorem nText_f (n : Int) (h0 : -9223372036854775808 ≤ n) (h1 : n ≤ 9223372036854775807) (w : World) (HT : Hid (Tab10 w)) :
    Calls Tryz.prog 81 #[.int .i64 n] w fun e w' => e = .returned (.string ⟨(Lib.itoa n).toArray⟩) ∧ Below w.heap.size w w' := by
  go_enter Tryz.func81, Tryz.ntmps81
  go_wp2_with fail
  refine (Tryz.strconv_Itoa n h0 h1 _ (HT.out _ (Below.refl _ _))).mono ?_
  rintro e w1 ⟨rfl, k, os, rfl⟩
  go_wp2
  go_ret
  exact ⟨rfl, Lib.below_grow w.heap.size w (Nat.le_refl _) k os⟩
/-- a range as the code writes it -/
def rgx (A N : Int) : List UInt8 := if N ≤ 1 then Lib.itoa A else Lib.itoa A ++ 44 :: Lib.itoa (A + N - 1)
theorem rgx_len {A N : Int} (h0 : 0 ≤ A) (h1 : A ≤ 4611686018427387904) (h2 : 0 ≤ N) (h3 : N ≤ 4611686018427387900) : (rgx A N).length ≤ 43 := by
  have l1 := itoa_short A (by omega) (by omega)
  have l2 := itoa_short (A + N - 1) (by omega) (by omega)
  unfold rgx
  split
  · omega
  · simp only [List.length_append, List.length_cons]
    omega
set_option maxHeartbeats 1000000 in
theorem nrange_f (A N : Int) (h0 : 0 ≤ A) (h1 : A ≤ 4611686018427387904) (h2 : 0 ≤ N) (h3 : N ≤ 4611686018427387900) (w : World) (HT : Hid (Tab10 w)) (T : List UInt8) (HR : Hid (rgx A N = T)) :
    Calls Tryz.prog 35 #[.int .i64 A, .int .i64 N] w fun e w' => e = .returned (.string ⟨T.toArray⟩) ∧ Below w.heap.size w w' := by
  have l1 := itoa_short A (by omega) (by omega)
  have l2 := itoa_short (A + N - 1) (by omega) (by omega)
  by_cases hN : N ≤ 1
  · have HE1 : Hid (Lib.itoa A = T) := (by have h := HR.out; unfold rgx at h; rw [if_pos hN] at h; exact h)
    clear HR
    go_enter Tryz.func35, Tryz.ntmps35
    go_wp2_with fail
    refine (nText_f A (by omega) (by omega) _ HT).mono ?_
    rintro e w1 ⟨rfl, hb1⟩
    go_wp2
    go_ret
    exact ⟨by rw [← HE1.out]; rfl, hb1⟩
  · have HE : Hid (Lib.itoa A ++ 44 :: Lib.itoa (A + N - 1) = T) := (by have h := HR.out; unfold rgx at h; rw [if_neg hN] at h; exact h)
    clear HR
    have q1 := add_fits (x := Lib.itoa A) (y := [44]) (by unfold Fits; simp only [List.length_cons, List.length_nil]; omega) Tryz.prog
    have q2 := add_fits (x := Lib.itoa A ++ [44]) (y := Lib.itoa (A + N - 1)) (by unfold Fits; simp only [List.length_append, List.length_cons, List.length_nil]; omega) Tryz.prog
    go_enter Tryz.func35, Tryz.ntmps35
    go_wp2_with fail
    refine (nText_f A (by omega) (by omega) _ HT).mono ?_
    rintro e w1 ⟨rfl, hb1⟩
    have HT1 : Hid (Tab10 w1) := HT.out.on hb1
    go_wp2_with fail
    refine (nText_f (A + N - 1) (by omega) (by omega) _ HT1).mono ?_
    rintro e w2 ⟨rfl, hb2⟩
    go_wp2
    go_ret
    exact ⟨by rw [← HE.out]; rfl, hb1.trans (hb2.mono hb1.size)⟩
/-- what a hunk does, as the code writes it -/
def ltrT (AN BN : Int) : List UInt8 := if AN = 0 then [97] else if BN = 0 then [100] else [99]
theorem ltr_len (AN BN : Int) : (ltrT AN BN).length = 1 := by
  unfold ltrT
  split
  · rfl
  · split <;> rfl
set_option maxHeartbeats 1000000 in
theorem nletter_f (h : Hk) (v : Value) (w : World) (hv : HMk w v h.ls) (T : List UInt8) (HR : Hid (ltrT h.AN h.BN = T)) :
    Calls Tryz.prog 36 #[hkV h v] w fun e w' => e = .returned (.string ⟨T.toArray⟩) ∧ Below w.heap.size w w' := by
  have hBl : Below w.heap.size w (w.alloc (hkO h v)) := (Below.refl _ w).alloc (Nat.le_refl _) _
  obtain ⟨c0, c1, c2, c3, c4⟩ := (Hx.new w h v).cells
  unfold hkO at c0 c1 c2 c3 c4 hBl
  obtain ⟨lo, lc, rfl⟩ := HMk.form hv
  have e : hkV h (.slice lo h.ls.length lc) = .agg #[.int .i64 h.A, .int .i64 h.AN, .int .i64 h.B, .int .i64 h.BN, .slice lo h.ls.length lc] := rfl
  rw [e]
  clear e
  by_cases h1 : h.AN = 0
  · have e1 : (h.AN == 0) = true := by rw [h1]; rfl
    have hE : [97] = T := (by have q := HR.out; unfold ltrT at q; rw [if_pos h1] at q; exact q)
    subst hE
    clear HR h1
    go_enter Tryz.func36, Tryz.ntmps36
    go_wp2
    go_ret
    exact ⟨rfl, hBl⟩
  · have e1 : (h.AN == 0) = false := beq_eq_false_iff_ne.2 h1
    by_cases h2 : h.BN = 0
    · have e2 : (h.BN == 0) = true := by rw [h2]; rfl
      have hE : [100] = T := (by have q := HR.out; unfold ltrT at q; rw [if_neg h1, if_pos h2] at q; exact q)
      subst hE
      clear HR h1 h2
      go_enter Tryz.func36, Tryz.ntmps36
      go_wp2
      go_ret
      exact ⟨rfl, hBl⟩
    · have e2 : (h.BN == 0) = false := beq_eq_false_iff_ne.2 h2
      have hE : [99] = T := (by have q := HR.out; unfold ltrT at q; rw [if_neg h1, if_neg h2] at q; exact q)
      subst hE
      clear HR h1 h2
      go_enter Tryz.func36, Tryz.ntmps36
      go_wp2
      go_ret
      exact ⟨rfl, hBl⟩
set_option maxHeartbeats 1000000 in
theorem ndivided_f (h : Hk) (v : Value) (w : World) (hv : ∃ lo n lc, v = .slice lo n lc) (r : Bool) (HR : Hid ((decide (0 < h.AN) && decide (0 < h.BN)) = r)) :
    Calls Tryz.prog 39 #[hkV h v] w fun e w' => e = .returned (.bool r) ∧ Below w.heap.size w w' := by
  have hBl : Below w.heap.size w (w.alloc (hkO h v)) := (Below.refl _ w).alloc (Nat.le_refl _) _
  obtain ⟨c0, c1, c2, c3, c4⟩ := (Hx.new w h v).cells
  unfold hkO at c0 c1 c2 c3 c4 hBl
  obtain ⟨lo, n, lc, rfl⟩ := hv
  have e : hkV h (.slice lo n lc) = .agg #[.int .i64 h.A, .int .i64 h.AN, .int .i64 h.B, .int .i64 h.BN, .slice lo n lc] := rfl
  rw [e]
  clear e
  by_cases h1 : 0 < h.AN
  · have hE : decide (0 < h.BN) = r := (by rw [← HR.out]; simp [h1])
    subst hE
    clear HR
    go_enter Tryz.func39, Tryz.ntmps39
    go_wp2
    go_ret
    exact ⟨rfl, hBl⟩
  · have hE : false = r := (by rw [← HR.out]; simp [h1])
    subst hE
    clear HR
    go_enter Tryz.func39, Tryz.ntmps39
    go_wp2
    go_ret
    exact ⟨rfl, hBl⟩
end Go.Proofs.YtgiojkhmkeocfaaGreatDoor

/- A line as it stands in a patch (package patchtext), walked. -/
set_option maxRecDepth 20000
namespace Go.Proofs.YtgiojkhmkeocfaaGreatDoor
open Go.RowKit

theorem suf_feed (s : List UInt8) : Lib.hasSuffix s [10] = fdB s := by
  unfold Lib.hasSuffix fdB
  rw [Bool.eq_iff_iff, List.isSuffixOf_iff_suffix, beq_iff_eq]
  constructor
  · rintro ⟨t, rfl⟩
    simp
  · intro h
    obtain ⟨t, rfl⟩ := List.getLast?_eq_some_iff.1 h
    exact ⟨t, rfl⟩
/-- a line of a file as it stands behind its sign -/
def plT (s : List UInt8) : List UInt8 := if fdB s = true then s else s ++ 10 :: markT
theorem pl_lines (ah s : List UInt8) : (lnL ah s).flatten = ah ++ plT s := by
  unfold lnL plT
  split <;> simp
set_option maxHeartbeats 1000000 in
theorem pline_f (s : List UInt8) (w : World) (hs : s.length ≤ 1099511627776) (Z : List UInt8) (HZ : Hid (plT s = Z)) :
    Calls Tryz.prog 82 #[.string ⟨s.toArray⟩] w fun e w' => e = .returned (.string ⟨Z.toArray⟩) ∧ w' = w := by
  cases hf : fdB s with
  | true =>
    have HE : Hid (s = Z) := (by have h := HZ.out; unfold plT at h; rw [if_pos hf] at h; exact h)
    clear HZ
    go_enter Tryz.func82, Tryz.ntmps82
    go_wp2_with fail
    refine (Tryz.strings_HasSuffix ⟨s.toArray⟩ ⟨#[10]⟩ w (by show s.length ≤ _; omega)).mono ?_
    rintro e w2 ⟨rfl, rfl⟩
    have e1 : Lib.hasSuffix (⟨s.toArray⟩ : ByteArray).data.toList (⟨#[10]⟩ : ByteArray).data.toList = true := (suf_feed s).trans hf
    rw [e1]
    clear e1 hf
    go_wp2
    go_ret
    exact ⟨by rw [← HE.out]; rfl, rfl⟩
  | false =>
    have HE : Hid (s ++ 10 :: markT = Z) := (by have h := HZ.out; unfold plT at h; rw [if_neg (by rw [hf]; decide)] at h; exact h)
    have q1 := add_fits (x := s) (y := 10 :: markT) (by unfold Fits; simp only [markT, List.length_cons, List.length_nil]; omega) Tryz.prog
    rw [HE.out] at q1
    unfold markT at q1
    have q2 := add_fits (x := s) (y := [10]) (by unfold Fits; simp only [List.length_cons, List.length_nil]; omega) Tryz.prog
    have q3 := add_fits (x := s ++ [10]) (y := markT) (by unfold Fits; simp only [markT, List.length_append, List.length_cons, List.length_nil]; omega) Tryz.prog
    have q4 : s ++ [10] ++ markT = Z := (by rw [← HE.out]; simp)
    rw [q4] at q3
    unfold markT at q3
    clear HZ q4
    go_enter Tryz.func82, Tryz.ntmps82
    go_wp2_with fail
    refine (Tryz.strings_HasSuffix ⟨s.toArray⟩ ⟨#[10]⟩ w (by show s.length ≤ _; omega)).mono ?_
    rintro e w2 ⟨rfl, rfl⟩
    have e1 : Lib.hasSuffix (⟨s.toArray⟩ : ByteArray).data.toList (⟨#[10]⟩ : ByteArray).data.toList = false := (suf_feed s).trans hf
    rw [e1]
    clear e1 hf
    go_wp2
    go_ret
    exact ⟨rfl, rfl⟩
end Go.Proofs.YtgiojkhmkeocfaaGreatDoor

/- The code's writeLines of layer 12, walked: lines behind a sign are written into a builder. -/
set_option maxRecDepth 20000
namespace Go.Proofs.YtgiojkhmkeocfaaGreatDoor
open Go.RowKit

theorem bcells_len (l : List UInt8) : (Lib.byteCells l).length = l.length := by simp [Lib.byteCells]
/-- a builder stays as it is where all ahead stays -/
theorem isF_low {T e : TypeId} {B b : Nat} {bs : List Value} {w w' : World} (h : Lib.IsBuilderF T e B b bs w) (hb : Below w.heap.size w w') : Lib.IsBuilderF T e B b bs w' := by
  have key : ∀ p, Lib.BuilderAtF T e B b p bs w → Lib.BuilderAtF T e B b p bs w' := by
    rintro p ⟨h1, v, h2, h3, h4⟩
    refine ⟨h1, v, (hb.block b (Array.getElem?_eq_some_iff.1 h2).1).trans h2, ⟨h3.1, ?_⟩, h4⟩
    rcases h3.2 with q | ⟨g, cap, cur, fz, q1, q2, q3, q4⟩
    · exact .inl q
    · exact .inr ⟨g, cap, cur, fz, q1, q2, (hb.block g (Array.getElem?_eq_some_iff.1 q3).1).trans q3, q4⟩
  rcases h with h | h
  · exact .inl (key _ h)
  · exact .inr (key _ h)
theorem isF_fresh (w : World) : Lib.IsBuilderF 77 5 w.heap.size w.heap.size (Lib.byteCells []) (w.alloc (.cells #[.pointer none, .slice none 0 0] 77)) :=
  .inl ⟨Nat.le_refl _, .slice none 0 0, heap_alloc_new w _, ⟨rfl, .inl ⟨rfl, rfl⟩⟩, by simp [Value.ownBlock]⟩
/-- a row of texts of one's own stays where a builder is written -/
theorem owns_others {w u : World} {base b : Nat} {v : Value} {n : Nat} {xs : List Value} (h : w.ownsRow base 9 1 v n xs) (hk : Lib.OthersKept 5 (some b) w u) (hb : ∀ g, v.ownBlock = some g → g ≠ b) : u.ownsRow base 9 1 v n xs := by
  refine ⟨h.1, ?_⟩
  rcases h.2 with q | ⟨g, cap, cur, rfl, q2, q3, q4⟩
  · exact .inl q
  · refine .inr ⟨g, cap, cur, rfl, q2, hk g _ q3 (fun e => hb g rfl (Option.some.inj e)) (fun c fz e => ?_), q4⟩
    cases e
theorem hx_others {w u : World} {b B : Nat} {h : Hk} {v : Value} (q : Hx w B h v) (hk : Lib.OthersKept 5 (some b) w u) (hb : B ≠ b) : Hx u B h v :=
  hk B _ q (fun e => hb (Option.some.inj e)) (fun c fz e => by cases e)
set_option maxHeartbeats 2000000 in
theorem nlines_f (B b : Nat) (acc ah : List UInt8) (x : List (List UInt8)) (v : Value) (w : World) (hB : Lib.IsBuilderF 77 5 B b (Lib.byteCells acc) w) (hBw : B ≤ w.heap.size)
    (hv : ∃ vo vc, v = .slice vo x.length vc) (HV : Hid (∀ u, Lib.OthersKept 5 (some b) w u → HS u v x)) (hxl : x.length ≤ 1099511627776) (HTX : Hid (∀ s ∈ x, s.length ≤ 1099511627776)) (hal : ah.length ≤ 10) (Z : List UInt8) (HZ : Hid (acc ++ (x.flatMap (lnL ah)).flatten = Z)) (hZ : Z.length ≤ 70368744177664) :
    Calls Tryz.prog 37 #[.pointer (some ⟨b, 0, none⟩), .string ⟨ah.toArray⟩, v] w fun e w' => e = .returned (.tuple #[]) ∧ Lib.IsBuilderF 77 5 B b (Lib.byteCells Z) w' ∧ Below B w w' ∧ Lib.OthersKept 5 (some b) w w' := by
  obtain ⟨vo, vc, rfl⟩ := hv
  go_enter Tryz.func37, Tryz.ntmps37
  go_wp2
  go_loopw [10] (fun i wr => ∃ (k : Nat) (ac : List UInt8), k ≤ x.length ∧ i = .int .i64 (k : Int) ∧ Lib.IsBuilderF 77 5 B b (Lib.byteCells ac) wr ∧ Below B w wr ∧ Lib.OthersKept 5 (some b) w wr ∧ Hid (ac ++ ((x.drop k).flatMap (lnL ah)).flatten = Z)) (fun i _ => x.length - (intOf i).toNat)
  case atStart => exact ⟨0, acc, Nat.zero_le _, by go_num, hB, Below.refl _ _, Lib.OthersKept.refl _ _ _, HZ⟩
  case round =>
    obtain ⟨k, ac, hk, rfl, hBr, hbr, hor, HI⟩ := hrel
    have hbz : B ≤ wr.heap.size := Nat.le_trans hBw hbr.size
    have hacl : ac.length ≤ 70368744177664 := (by
      have h1 := congrArg List.length HI.out
      rw [List.length_append] at h1
      omega)
    by_cases hlt : k < x.length
    · obtain ⟨bk, off, rfl, hbk, hcl⟩ := HS.at (HV.out wr hor) (by omega)
      have c0 := hcl k hlt
      have hsl := HTX.out x[k] (List.getElem_mem _)
      have HE : Hid (ac ++ (lnL ah x[k]).flatten ++ ((x.drop (k + 1)).flatMap (lnL ah)).flatten = Z) := (by
        show _ = _
        rw [← HI.out, List.drop_eq_getElem_cons hlt, List.flatMap_cons, List.flatten_append, List.append_assoc])
      obtain ⟨s, hs⟩ : ∃ s, x[k] = s := ⟨_, rfl⟩
      rw [hs] at c0 hsl HE
      clear hcl hs HI HV HTX HZ
      have i1 : 0 ≤ (k : Int) := by omega
      have i2 : (k : Int) < (x.length : Int) := by omega
      obtain ⟨T, hT⟩ : ∃ T, plT s = T := ⟨_, rfl⟩
      have HT : Hid (plT s = T) := hT
      have hTl : T.length ≤ s.length + 29 := (by
        rw [← hT]
        unfold plT
        split
        · omega
        · simp only [markT, List.length_append, List.length_cons, List.length_nil]
          omega)
      have HE2 : Hid (ac ++ (ah ++ T) ++ ((x.drop (k + 1)).flatMap (lnL ah)).flatten = Z) := (by
        show _ = _
        rw [← HE.out, pl_lines, hT])
      have hZl : ac.length + (ah ++ T).length ≤ 70368744177664 := (by
        have h1 := congrArg List.length HE2.out
        simp only [List.length_append] at h1 ⊢
        omega)
      have q1 := add_fits (x := ah) (y := T) (by unfold Fits; omega) Tryz.prog
      clear hT HE
      go_wp2_with fail
      refine (pline_f s wr hsl T HT).mono ?_
      rintro e w0 ⟨rfl, rfl⟩
      go_wp2_with fail
      refine (Tryz.WriteString_h B b _ _ w0 hBr (by rw [bcells_len]; show ac.length + (ah ++ T).length ≤ _; omega) hbz).mono ?_
      rintro e w1 ⟨rfl, hB1, hb1, ho1⟩
      have hB2 : Lib.IsBuilderF 77 5 B b (Lib.byteCells (ac ++ (ah ++ T))) w1 := .inr (by rw [Lib.byteCells_append]; exact hB1)
      have hb2 := hbr.trans hb1
      have ho2 := hor.trans ho1
      clear hB1 hb1 ho1 hBr hbr hor q1 c0
      go_wp2
      exact ⟨⟨k + 1, _, by omega, by go_num, hB2, hb2, ho2, HE2⟩, by simp [intOf]; omega⟩
    · have HE : Hid (ac = Z) := (by
        have h := HI.out
        rw [List.drop_of_length_le (by omega)] at h
        show ac = Z
        simpa using h)
      have hend : decide ((k : Int) < (x.length : Int)) = false := decide_eq_false (by omega)
      clear HI
      go_wp2
      first
        | go_end0
        | refine bodyPost_ret (results_none rfl _ _ _) rfl ?_
        | refine bodyPost_end (results_none rfl _ _ _) rfl ?_
      exact ⟨rfl, by rw [← HE.out]; exact hBr, hbr, hor⟩
end Go.Proofs.YtgiojkhmkeocfaaGreatDoor

/- The reference's reader of lines, walked: its place, its first fault; the next line. -/
set_option maxRecDepth 20000
namespace Go.Proofs.YtgiojkhmkeocfaaGreatDoor
open Go.RowKit

/-- a reader: its lines, where it stands, its fault -/
def rdO (vL : Value) (p fa fe : Int) : Obj := .cells #[vL, .int .i64 p, .int .i64 fa, .int .i64 fe] 112
def Rx (u : World) (R : Nat) (vL : Value) (p fa fe : Int) : Prop := u.heap[R]? = some (rdO vL p fa fe)
section
variable {u u' : World} {R : Nat} {vL : Value} {p fa fe : Int}
theorem Rx.cells (q : Rx u R vL p fa fe) : u.cell? ⟨R, 0, none⟩ = some vL ∧ u.cell? ⟨R, 1, none⟩ = some (.int .i64 p) ∧ u.cell? ⟨R, 2, none⟩ = some (.int .i64 fa) ∧ u.cell? ⟨R, 3, none⟩ = some (.int .i64 fe) := by
  unfold Rx rdO at q
  refine ⟨?_, ?_, ?_, ?_⟩ <;> rw [Lib.cell_of_heap q] <;> rfl
theorem Rx.frozen (q : Rx u R vL p fa fe) (j : Nat) : u.frozen? ⟨R, j, none⟩ = false := Lib.frozen_of_heap q j
theorem Rx.lt (q : Rx u R vL p fa fe) : R < u.heap.size := (Array.getElem?_eq_some_iff.1 q).1
theorem Rx.dN (q : Rx u R vL p fa fe) (n : Nat) : Rx (u.drewN n) R vL p fa fe := q
theorem Rx.at (q : Rx u R vL p fa fe) (p' : Int) : Rx (u.setCell ⟨R, 1, none⟩ (.int .i64 p')) R vL p' fa fe := heap_setCell_same u R 1 _ _ (.int .i64 p') q
theorem Rx.fault (q : Rx u R vL p fa fe) (x y : Int) : Rx ((u.setCell ⟨R, 2, none⟩ (.int .i64 x)).setCell ⟨R, 3, none⟩ (.int .i64 y)) R vL p x y := heap_setCell_same _ R 3 _ _ (.int .i64 y) (heap_setCell_same u R 2 _ _ (.int .i64 x) q)
end
theorem grown_two {w u v : World} {r : Option Nat} (h : w.grownBy u r) (h' : u.grownBy v r) : w.grownBy v r :=
  ⟨h'.os.trans h.os, h'.tape.trans h.tape, h'.output.trans h.output, Nat.le_trans h.size h'.size, fun k hk hr => (h'.block k (Nat.lt_of_lt_of_le hk h.size) hr).trans (h.block k hk hr)⟩
set_option maxHeartbeats 1000000 in
theorem rFail_ok {R : Nat} {vL : Value} {p fa : Int} (e : Int) (w : World) (q : Rx w R vL p fa 0) :
    Calls Tryz.prog 55 #[.pointer (some ⟨R, 0, none⟩), .int .i64 e] w fun x w' => x = .returned (.tuple #[]) ∧ Rx w' R vL p p e ∧ w.grownBy w' (some R) := by
  obtain ⟨c0, c1, c2, c3⟩ := q.cells
  have f2 := q.frozen 2
  have f3 := q.frozen 3
  have HQ : Hid (Rx ((w.setCell ⟨R, 2, none⟩ (.int .i64 p)).setCell ⟨R, 3, none⟩ (.int .i64 e)) R vL p p e ∧ w.grownBy ((w.setCell ⟨R, 2, none⟩ (.int .i64 p)).setCell ⟨R, 3, none⟩ (.int .i64 e)) (some R)) := ⟨q.fault p e, grown_two (grown_set w R 2 _) (grown_set _ R 3 _)⟩
  clear q
  go_enter Tryz.func55, Tryz.ntmps55
  go_wp2
  go_end0
  exact ⟨rfl, HQ.out⟩
set_option maxHeartbeats 1000000 in
theorem rFail_no {R : Nat} {vL : Value} {p fa fe : Int} (e : Int) (w : World) (q : Rx w R vL p fa fe) (hf : fe ≠ 0) :
    Calls Tryz.prog 55 #[.pointer (some ⟨R, 0, none⟩), .int .i64 e] w fun x w' => x = .returned (.tuple #[]) ∧ w' = w := by
  obtain ⟨c0, c1, c2, c3⟩ := q.cells
  have h1 : (fe == 0) = false := beq_eq_false_iff_ne.2 hf
  clear q
  go_enter Tryz.func55, Tryz.ntmps55
  go_wp2
  go_end0
  exact ⟨rfl, rfl⟩
set_option maxHeartbeats 1000000 in
theorem rMore_f {R : Nat} {L : List (List UInt8)} {lo : Option Addr} {lc : Nat} {p : Nat} {fa fe : Int} (w : World) (q : Rx w R (.slice lo L.length lc) p fa fe) :
    Calls Tryz.prog 53 #[.pointer (some ⟨R, 0, none⟩)] w fun x w' => x = .returned (.bool (decide (fe = 0) && decide (p < L.length))) ∧ ∃ m, w' = w.drewN m := by
  obtain ⟨c0, c1, c2, c3⟩ := q.cells
  clear q
  by_cases hf : fe = 0
  · have h1 : (fe == 0) = true := by rw [hf]; rfl
    have h2 : decide (fe = 0) = true := decide_eq_true hf
    rw [h2]
    by_cases hp : p < L.length
    · have h3 : decide (p < L.length) = true := decide_eq_true hp
      have h4 : decide ((p : Int) < (L.length : Int)) = true := decide_eq_true (by omega)
      rw [h3]
      clear hf
      go_enter Tryz.func53, Tryz.ntmps53
      go_wp2_with fail
      go_quiet (fail)
      go_wp2
      go_ret
      exact ⟨rfl, _, rfl⟩
    · have h3 : decide (p < L.length) = false := decide_eq_false hp
      have h4 : decide ((p : Int) < (L.length : Int)) = false := decide_eq_false (by omega)
      rw [h3]
      clear hf
      go_enter Tryz.func53, Tryz.ntmps53
      go_wp2_with fail
      go_quiet (fail)
      go_wp2
      go_ret
      exact ⟨rfl, _, rfl⟩
  · have h1 : (fe == 0) = false := beq_eq_false_iff_ne.2 hf
    have h2 : decide (fe = 0) = false := decide_eq_false hf
    rw [h2]
    go_enter Tryz.func53, Tryz.ntmps53
    go_wp2_with fail
    go_quiet (fail)
    go_wp2
    go_ret
    exact ⟨rfl, _, rfl⟩

set_option maxHeartbeats 4000000 in
theorem rNext_no {R : Nat} {vL : Value} {p fa fe : Int} (w : World) (q : Rx w R vL p fa fe) (hf : fe ≠ 0) :
    Calls Tryz.prog 98 #[.pointer (some ⟨R, 0, none⟩)] w fun x w' => x = .returned (.string ⟨#[]⟩) ∧ w' = w := by
  obtain ⟨c0, c1, c2, c3⟩ := q.cells
  have h1 : (fe != 0) = true := bne_iff_ne.2 hf
  clear q
  go_enter Tryz.func98, Tryz.ntmps98
  go_wp2
  go_ret
  exact ⟨rfl, rfl⟩
theorem nxt_drop {L : List (List UInt8)} {p : Nat} (hp : p < L.length) : nxt p (L.drop p) = if fdB L[p] = true then .ok (L[p].dropLast, L.drop (p + 1)) else .error (p + 1, 3) := by
  rw [List.drop_eq_getElem_cons hp]
  rfl
theorem nxt_end {L : List (List UInt8)} {p : Nat} (hp : L.length ≤ p) : nxt p (L.drop p) = .error (p + 1, 1) := by
  rw [List.drop_eq_nil_of_le hp]
  rfl
theorem rBare_same (s : List UInt8) (hf : fdB s = true) (hs : s.length ≤ 1099511627776) (w : World) : Calls Tryz.prog 156 #[.string ⟨s.toArray⟩] w fun e w' => e = .returned (.tuple #[.string ⟨s.dropLast.toArray⟩, .bool true]) ∧ w' = w := by
  have eb : bareT s = s.dropLast := by unfold bareT; rw [if_pos hf]
  refine (rBare_f s w (by omega)).mono ?_
  rintro e w' ⟨rfl, rfl⟩
  rw [eb, hf]
  exact ⟨rfl, rfl⟩
theorem rBare_bad (s : List UInt8) (hf : fdB s = false) (hs : s.length ≤ 1099511627776) (w : World) : Calls Tryz.prog 156 #[.string ⟨s.toArray⟩] w fun e w' => e = .returned (.tuple #[.string ⟨s.toArray⟩, .bool false]) ∧ w' = w := by
  have eb : bareT s = s := by unfold bareT; rw [if_neg (by rw [hf]; decide)]
  refine (rBare_f s w (by omega)).mono ?_
  rintro e w' ⟨rfl, rfl⟩
  rw [eb, hf]
  exact ⟨rfl, rfl⟩
set_option maxHeartbeats 4000000 in
theorem rNext_end {R : Nat} {L : List (List UInt8)} {lo : Option Addr} {lc : Nat} {p : Nat} {fa : Int} (w : World) (q : Rx w R (.slice lo L.length lc) p fa 0) (_hL : HS w (.slice lo L.length lc) L) (_hR : ∀ a, lo = some a → a.block ≠ R) (hp : p ≤ 4398046511104) (hlt : L.length ≤ p) :
    Calls Tryz.prog 98 #[.pointer (some ⟨R, 0, none⟩)] w fun x w' => x = .returned (.string ⟨#[]⟩) ∧ Rx w' R (.slice lo L.length lc) ((p : Int) + 1) ((p : Int) + 1) 1 ∧ w.grownBy w' (some R) := by
  obtain ⟨c0, c1, c2, c3⟩ := q.cells
  have f1 := q.frozen 1
  have q1 := q.at ((p : Int) + 1)
  have g1 := grown_set w R 1 (.int .i64 ((p : Int) + 1))
  clear q
  go_enter Tryz.func98, Tryz.ntmps98
  go_upto_region 4 with fail
  generalize w.setCell ⟨R, 1, none⟩ (.int .i64 ((p : Int) + 1)) = W1 at q1 g1 ⊢
  obtain ⟨d0, d1, d2, d3⟩ := q1.cells
  have i0 : (L.length : Int) < (p : Int) + 1 := by omega
  clear c0 c1 c2 c3
  go_quiet (fail)
  go_wp2_with fail
  refine (rFail_ok 1 _ (q1.dN _)).mono ?_
  rintro e w2 ⟨rfl, q2, g2⟩
  go_wp2
  go_ret
  exact ⟨rfl, q2, grown_two (grown_drewN g1 _) g2⟩
set_option maxHeartbeats 4000000 in
theorem rNext_ok {R : Nat} {L : List (List UInt8)} {lo : Option Addr} {lc : Nat} {p : Nat} {fa : Int} (w : World) (q : Rx w R (.slice lo L.length lc) p fa 0) (hL : HS w (.slice lo L.length lc) L) (hR : ∀ a, lo = some a → a.block ≠ R) (hp : p ≤ 4398046511104) (hlt : p < L.length) {s : List UInt8} (hs : L[p] = s) (hsl : s.length ≤ 1099511627776) (hf : fdB s = true) :
    Calls Tryz.prog 98 #[.pointer (some ⟨R, 0, none⟩)] w fun x w' => x = .returned (.string ⟨s.dropLast.toArray⟩) ∧ Rx w' R (.slice lo L.length lc) ((p : Int) + 1) fa 0 ∧ w.grownBy w' (some R) := by
  obtain ⟨c0, c1, c2, c3⟩ := q.cells
  have f1 := q.frozen 1
  have q1 := q.at ((p : Int) + 1)
  have g1 := grown_set w R 1 (.int .i64 ((p : Int) + 1))
  clear q
  go_enter Tryz.func98, Tryz.ntmps98
  go_upto_region 4 with fail
  generalize w.setCell ⟨R, 1, none⟩ (.int .i64 ((p : Int) + 1)) = W1 at q1 g1 ⊢
  obtain ⟨d0, d1, d2, d3⟩ := q1.cells
  obtain ⟨bk, off, rfl, hbk, hcl⟩ := HS.at hL (by omega)
  have d4 := hcl p hlt
  have hRb : bk ≠ R := hR ⟨bk, off, none⟩ rfl
  have d5 : W1.cell? ⟨bk, off + p, none⟩ = some (.string ⟨L[p].toArray⟩) := (World.cell?_of_block (w := w) (g1.block bk hbk (fun e => hRb (Option.some.inj e)))).trans d4
  clear hcl d4 c0 c1 c2 c3 hL hR
  rw [hs] at d5
  have i0 : ¬ (L.length : Int) < (p : Int) + 1 := by omega
  have e1 : (p : Int) + 1 - 1 = (p : Int) := by omega
  have i1 : 0 ≤ (p : Int) := by omega
  have i2 : (p : Int) < (L.length : Int) := by omega
  have e3 : IntKind.i64.wrap (p : Int) = (p : Int) := (by simp [IntKind.wrap, IntKind.bits, IntKind.signed]; omega)
  have e4 : wrap64 (p : Int) = (p : Int) := by unfold wrap64; omega
  go_quiet (fail)
  go_wp2_with fail
  have q2 := q1.dN nq
  have g2 := grown_drewN g1 nq
  have d6 : (W1.drewN nq).cell? ⟨bk, off + p, none⟩ = some (.string ⟨s.toArray⟩) := d5
  clear q1 g1 d5 d0 d1 d2 d3
  generalize W1.drewN nq = W2 at q2 g2 d6 ⊢
  obtain ⟨d0, d1, d2, d3⟩ := q2.cells
  have j1 : (0 : Int) ≤ (p : Int) := by omega
  have j2 : (p : Int) < (L.length : Int) := by omega
  have j3 : (p : Int).toNat = p := by omega
  go_quiet ((go_at_call 156; exact Calls.quiet_of_same (rBare_same s hf hsl _)))
  go_wp2
  go_ret
  exact ⟨rfl, q2.dN _, grown_drewN g2 _⟩
set_option maxHeartbeats 4000000 in
theorem rNext_bad {R : Nat} {L : List (List UInt8)} {lo : Option Addr} {lc : Nat} {p : Nat} {fa : Int} (w : World) (q : Rx w R (.slice lo L.length lc) p fa 0) (hL : HS w (.slice lo L.length lc) L) (hR : ∀ a, lo = some a → a.block ≠ R) (hp : p ≤ 4398046511104) (hlt : p < L.length) {s : List UInt8} (hs : L[p] = s) (hsl : s.length ≤ 1099511627776) (hf : fdB s = false) :
    Calls Tryz.prog 98 #[.pointer (some ⟨R, 0, none⟩)] w fun x w' => x = .returned (.string ⟨#[]⟩) ∧ Rx w' R (.slice lo L.length lc) ((p : Int) + 1) ((p : Int) + 1) 3 ∧ w.grownBy w' (some R) := by
  obtain ⟨c0, c1, c2, c3⟩ := q.cells
  have f1 := q.frozen 1
  have q1 := q.at ((p : Int) + 1)
  have g1 := grown_set w R 1 (.int .i64 ((p : Int) + 1))
  clear q
  go_enter Tryz.func98, Tryz.ntmps98
  go_upto_region 4 with fail
  generalize w.setCell ⟨R, 1, none⟩ (.int .i64 ((p : Int) + 1)) = W1 at q1 g1 ⊢
  obtain ⟨d0, d1, d2, d3⟩ := q1.cells
  obtain ⟨bk, off, rfl, hbk, hcl⟩ := HS.at hL (by omega)
  have d4 := hcl p hlt
  have hRb : bk ≠ R := hR ⟨bk, off, none⟩ rfl
  have d5 : W1.cell? ⟨bk, off + p, none⟩ = some (.string ⟨L[p].toArray⟩) := (World.cell?_of_block (w := w) (g1.block bk hbk (fun e => hRb (Option.some.inj e)))).trans d4
  clear hcl d4 c0 c1 c2 c3 hL hR
  rw [hs] at d5
  have i0 : ¬ (L.length : Int) < (p : Int) + 1 := by omega
  have e1 : (p : Int) + 1 - 1 = (p : Int) := by omega
  have i1 : 0 ≤ (p : Int) := by omega
  have i2 : (p : Int) < (L.length : Int) := by omega
  have e3 : IntKind.i64.wrap (p : Int) = (p : Int) := (by simp [IntKind.wrap, IntKind.bits, IntKind.signed]; omega)
  have e4 : wrap64 (p : Int) = (p : Int) := by unfold wrap64; omega
  go_quiet (fail)
  go_wp2_with fail
  have q2 := q1.dN nq
  have g2 := grown_drewN g1 nq
  have d6 : (W1.drewN nq).cell? ⟨bk, off + p, none⟩ = some (.string ⟨s.toArray⟩) := d5
  clear q1 g1 d5 d0 d1 d2 d3
  generalize W1.drewN nq = W2 at q2 g2 d6 ⊢
  obtain ⟨d0, d1, d2, d3⟩ := q2.cells
  have j1 : (0 : Int) ≤ (p : Int) := by omega
  have j2 : (p : Int) < (L.length : Int) := by omega
  have j3 : (p : Int).toNat = p := by omega
  go_quiet ((go_at_call 156; exact Calls.quiet_of_same (rBare_bad s hf hsl _)))
  go_wp2_with fail
  refine (rFail_ok 3 _ (q2.dN _)).mono ?_
  rintro e w2 ⟨rfl, q3, g3⟩
  go_wp2
  go_ret
  exact ⟨rfl, q3, grown_two (grown_drewN g2 _) g3⟩
end Go.Proofs.YtgiojkhmkeocfaaGreatDoor

/- The reference's reader, walked: does the next line begin with some bytes? -/
set_option maxRecDepth 20000
namespace Go.Proofs.YtgiojkhmkeocfaaGreatDoor
open Go.RowKit
attribute [local go_sem] ByteArray.extract_mk no_at

theorem pre_take (sg l : List UInt8) : sg.isPrefixOf l = (decide (sg.length ≤ l.length) && (l.take sg.length == sg)) := by
  rw [Bool.eq_iff_iff, List.isPrefixOf_iff_prefix, Bool.and_eq_true, decide_eq_true_eq, beq_iff_eq]
  constructor
  · rintro ⟨t, rfl⟩
    simp
  · rintro ⟨_, h⟩
    refine ⟨l.drop sg.length, ?_⟩
    have h2 := List.take_append_drop sg.length l
    rw [h] at h2
    exact h2
set_option maxHeartbeats 4000000 in
theorem rPeek_f {R : Nat} {L : List (List UInt8)} {lo : Option Addr} {lc : Nat} {p : Nat} {fa : Int} (w : World) (q : Rx w R (.slice lo L.length lc) p fa 0) (hL : HS w (.slice lo L.length lc) L) (hs : ∀ s ∈ L, s.length ≤ 1099511627776) (b : Bool) (HB : Hid (pkM (L.drop p) = b)) :
    Calls Tryz.prog 56 #[.pointer (some ⟨R, 0, none⟩), .string ⟨markT.toArray⟩] w fun x w' => x = .returned (.bool b) ∧ ∃ m, w' = w.drewN m := by
  by_cases hlt : p < L.length
  · have hd : L.drop p = L[p] :: L.drop (p + 1) := List.drop_eq_getElem_cons hlt
    have hb := HB.out
    rw [hd] at hb
    simp only [pkM] at hb
    obtain ⟨bk, off, rfl, hbk, hcl⟩ := HS.at hL (by omega)
    have d4 := hcl p hlt
    have hsl := hs L[p] (List.getElem_mem _)
    rw [pre_take] at hb
    generalize L[p] = s at d4 hsl hb
    clear hcl hd hs HB hL
    obtain ⟨c0, c1, c2, c3⟩ := q.cells
    go_enter Tryz.func56, Tryz.ntmps56
    go_wp2_with fail
    refine (rMore_f w q).mono ?_
    rintro e w1 ⟨rfl, m, rfl⟩
    have hmr : (decide ((0 : Int) = 0) && decide (p < L.length)) = true := by simp [hlt]
    rw [hmr]
    have f0 : (w.drewN m).cell? ⟨R, 0, none⟩ = _ := c0
    have f1 : (w.drewN m).cell? ⟨R, 1, none⟩ = _ := c1
    have f4 : (w.drewN m).cell? ⟨bk, off + p, none⟩ = _ := d4
    clear c0 c1 c2 c3 d4 q hmr
    have HM : Hid (∀ n, ∃ k, (w.drewN m).drewN n = w.drewN k) := fun n => ⟨_, World.drewN_drewN w m n⟩
    generalize w.drewN m = W1 at f0 f1 f4 HM ⊢
    go_wp2_with fail
    have j1 : (0 : Int) ≤ (p : Int) := by omega
    have j2 : (p : Int) < (L.length : Int) := by omega
    have j3 : (p : Int).toNat = p := by omega
    go_quiet (fail)
    by_cases hlen : 28 ≤ s.length
    · have h1 : (28 : Int) ≤ (s.length : Int) := by omega
      have h2 : (s.take 28 == markT) = b := by rw [← hb]; simp [markT, hlen]
      go_wp2
      go_ret
      refine ⟨?_, HM.out _⟩
      rw [← h2]
      rfl
    · have h1 : ¬ (28 : Int) ≤ (s.length : Int) := by omega
      have h2 : b = false := by rw [← hb]; simp [markT, hlen]
      subst h2
      go_wp2
      go_ret
      exact ⟨rfl, HM.out _⟩
  · have hd : L.drop p = [] := List.drop_eq_nil_of_le (by omega)
    have hb := HB.out
    rw [hd] at hb
    simp only [pkM] at hb
    subst hb
    go_enter Tryz.func56, Tryz.ntmps56
    go_wp2_with fail
    refine (rMore_f w q).mono ?_
    rintro e w1 ⟨rfl, m, rfl⟩
    have hmr : (decide ((0 : Int) = 0) && decide (p < L.length)) = false := by simp [hlt]
    rw [hmr]
    go_wp2
    go_ret
    exact ⟨rfl, m, rfl⟩
end Go.Proofs.YtgiojkhmkeocfaaGreatDoor

/- The reference's reader, walked: a line with a sign, behind which the mark may stand. -/
set_option maxRecDepth 20000
namespace Go.Proofs.YtgiojkhmkeocfaaGreatDoor
open Go.RowKit
attribute [local go_sem] ByteArray.extract_mk no_at

theorem HS.away {w w' : World} {R : Nat} {lo : Option Addr} {lc : Nat} {L : List (List UInt8)} (h : HS w (.slice lo L.length lc) L) (hg : w.grownBy w' (some R)) (hR : ∀ a, lo = some a → a.block ≠ R) : HS w' (.slice lo L.length lc) L := by
  rcases h with h | ⟨ad, c, hv, hnc, hc⟩
  · exact .inl h
  · refine .inr ⟨ad, c, hv, hnc, fun j u hj => ?_⟩
    cases hv
    have h1 := hc j u hj
    have hb : (ad.add j).block = ad.block := by unfold Addr.add; split <;> rfl
    have hlt := World.block_lt_of_cell? w _ h1
    rw [World.cell?_of_block (w := w) (hg.block _ hlt (fun e => hR ad rfl (by rw [← hb]; exact Option.some.inj e)))]
    exact h1
/-- what a line with a sign leaves behind -/
def MkP (R : Nat) (vL : Value) (L : List (List UInt8)) (fa : Int) (X : Except (Nat × Int) (List UInt8 × Nat × List (List UInt8))) (x : Ending) (w' : World) : Prop :=
  match X with
  | .error (a, e) => ∃ (t : List UInt8) (p' : Int), x = .returned (.string ⟨t.toArray⟩) ∧ Rx w' R vL p' (a : Int) e ∧ e ≠ 0
  | .ok (t, p1, r) => x = .returned (.string ⟨t.toArray⟩) ∧ Rx w' R vL (p1 : Int) fa 0 ∧ L.drop p1 = r
end Go.Proofs.YtgiojkhmkeocfaaGreatDoor

/- The code's reader of lines, walked: what is wrong is thrown; the next line; the line between. -/
set_option maxRecDepth 20000
namespace Go.Proofs.YtgiojkhmkeocfaaGreatDoor
open Go.RowKit
attribute [local go_sem] ByteArray.extract_mk no_at

/-- a reader: its lines, how many are read -/
def ryO (vL : Value) (p : Int) : Obj := .cells #[vL, .int .i64 p] 138
def Ry (u : World) (R : Nat) (vL : Value) (p : Int) : Prop := u.heap[R]? = some (ryO vL p)
/-- a fault -/
def fltO (a z : Int) : Obj := .cells #[.int .i64 a, .iface 26 (.int .i64 z)] 88
section
variable {u u' : World} {R : Nat} {vL : Value} {p : Int}
theorem Ry.cells (q : Ry u R vL p) : u.cell? ⟨R, 0, none⟩ = some vL ∧ u.cell? ⟨R, 1, none⟩ = some (.int .i64 p) := by
  unfold Ry ryO at q
  refine ⟨?_, ?_⟩ <;> rw [Lib.cell_of_heap q] <;> rfl
theorem Ry.frozen (q : Ry u R vL p) (j : Nat) : u.frozen? ⟨R, j, none⟩ = false := Lib.frozen_of_heap q j
theorem Ry.lt (q : Ry u R vL p) : R < u.heap.size := (Array.getElem?_eq_some_iff.1 q).1
theorem Ry.dN (q : Ry u R vL p) (n : Nat) : Ry (u.drewN n) R vL p := q
theorem Ry.at (q : Ry u R vL p) (p' : Int) : Ry (u.setCell ⟨R, 1, none⟩ (.int .i64 p')) R vL p' := heap_setCell_same u R 1 _ _ (.int .i64 p') q
theorem Ry.low (q : Ry u R vL p) (hg : Below u.heap.size u u') : Ry u' R vL p := (hg.block R q.lt).trans q
theorem Ry.keep (q : Ry u R vL p) {g : Option Nat} (hg : u.grownBy u' g) (hr : some R ≠ g) : Ry u' R vL p := (hg.block R q.lt hr).trans q
end
/-- what is wrong is thrown -/
def Thr (a z : Int) (x : Ending) (w' : World) : Prop := ∃ g, x = .panicked [{ v := .iface 86 (.pointer (some ⟨g, 0, none⟩)), recovered := false }] ∧ w'.heap[g]? = some (fltO a z)
set_option maxHeartbeats 1000000 in
theorem nthrow_f {R : Nat} {vL : Value} {p : Nat} (z : Int) (w : World) (q : Ry w R vL (p : Int)) (hp : p ≤ 4398046511104) :
    Calls Tryz.prog 139 #[.pointer (some ⟨R, 0, none⟩), .int .i64 z] w fun x w' => Thr ((p : Int) + 1) z x w' ∧ w.grownBy w' (some R) := by
  obtain ⟨c0, c1⟩ := q.cells
  have HQ : Hid ((w.alloc (fltO ((p : Int) + 1) z)).heap[w.heap.size]? = some (fltO ((p : Int) + 1) z) ∧ w.grownBy (w.alloc (fltO ((p : Int) + 1) z)) (some R)) := ⟨heap_alloc_new w _, World.grownBy_alloc w _ _⟩
  clear q
  go_enter Tryz.func139, Tryz.ntmps139
  go_wp2
  exact ⟨rfl, ⟨_, rfl, HQ.out.1⟩, HQ.out.2⟩
/-- what a line that is read leaves behind -/
def LnQ (R : Nat) (_vL : Value) (_p : Nat) (X : Except (Nat × Int) (List UInt8 × List (List UInt8))) (w : World) (x : Ending) (w' : World) : Prop :=
  match X with
  | .error (a, e) => Thr (a : Int) e x w' ∧ w.grownBy w' (some R)
  | .ok (s, _) => x = .returned (.string ⟨(s ++ [10]).toArray⟩) ∧ ∃ n, w' = w.drewN n
theorem drop_feed {s : List UInt8} (h : fdB s = true) : s.dropLast ++ [10] = s := (fd_form h).symm
set_option maxHeartbeats 4000000 in
theorem nline_f {R : Nat} {L : List (List UInt8)} {lo : Option Addr} {lc : Nat} {p : Nat} (w : World) (q : Ry w R (.slice lo L.length lc) p) (hL : HS w (.slice lo L.length lc) L) (hp : p ≤ L.length) (hLl : L.length ≤ 2199023255552) (hs : ∀ s ∈ L, s.length ≤ 1099511627776)
    (X : Except (Nat × Int) (List UInt8 × List (List UInt8))) (HX : Hid (nxt p (L.drop p) = X)) :
    Calls Tryz.prog 138 #[.pointer (some ⟨R, 0, none⟩)] w fun x w' => LnQ R (.slice lo L.length lc) p X w x w' := by
  have hX := HX.out
  clear HX
  by_cases hlt : p < L.length
  · rw [nxt_drop hlt] at hX
    obtain ⟨bk, off, rfl, hbk, hcl⟩ := HS.at hL (by omega)
    have d4 := hcl p hlt
    have hsl := hs L[p] (List.getElem_mem _)
    generalize L[p] = s at d4 hsl hX
    clear hcl hs hL
    obtain ⟨c0, c1⟩ := q.cells
    have e0 : ((p : Int) == (L.length : Int)) = false := beq_eq_false_iff_ne.2 (by omega)
    have i1 : (0 : Int) ≤ (p : Int) := by omega
    have i2 : (p : Int) < (L.length : Int) := by omega
    have i3 : (p : Int).toNat = p := by omega
    cases hf : fdB s with
    | true =>
      rw [if_pos hf] at hX
      subst hX
      have HD : Hid (s.dropLast ++ [10] = s) := drop_feed hf
      clear q
      go_enter Tryz.func138, Tryz.ntmps138
      go_wp2_with fail
      go_quiet (fail)
      go_wp2_with fail
      have c0' : (w.drewN nq).cell? ⟨R, 0, none⟩ = _ := c0
      have c1' : (w.drewN nq).cell? ⟨R, 1, none⟩ = _ := c1
      have d4' : (w.drewN nq).cell? ⟨bk, off + p, none⟩ = _ := d4
      have HM : Hid (∀ n, ∃ k, (w.drewN nq).drewN n = w.drewN k) := fun n => ⟨_, World.drewN_drewN w nq n⟩
      clear c0 c1 d4
      generalize w.drewN nq = W1 at c0' c1' d4' HM ⊢
      have j1 : (0 : Int) ≤ (p : Int) := by omega
      have j2 : (p : Int) < (L.length : Int) := by omega
      have j3 : (p : Int).toNat = p := by omega
      go_quiet (fail)
      go_wp2_with fail
      refine (Tryz.strings_HasSuffix ⟨s.toArray⟩ ⟨#[10]⟩ _ (by show s.length ≤ _; omega)).mono ?_
      rintro e w2 ⟨rfl, rfl⟩
      have e1 : Lib.hasSuffix (⟨s.toArray⟩ : ByteArray).data.toList (⟨#[10]⟩ : ByteArray).data.toList = true := (suf_feed s).trans hf
      rw [e1]
      clear e1 hf
      go_wp2
      go_ret
      refine ⟨?_, HM.out _⟩
      rw [HD.out]
      rfl
    | false =>
      rw [if_neg (by rw [hf]; decide)] at hX
      subst hX
      have q0 := q
      clear q
      go_enter Tryz.func138, Tryz.ntmps138
      go_wp2_with fail
      go_quiet (fail)
      go_wp2_with fail
      have c0' : (w.drewN nq).cell? ⟨R, 0, none⟩ = _ := c0
      have c1' : (w.drewN nq).cell? ⟨R, 1, none⟩ = _ := c1
      have d4' : (w.drewN nq).cell? ⟨bk, off + p, none⟩ = _ := d4
      have HM : Hid (∀ n, w.grownBy ((w.drewN nq).drewN n) (some R)) := fun n => grown_drewN (grown_drewN (low_grown (Below.refl _ _) _) nq) n
      have HQ : Hid (∀ n, Ry ((w.drewN nq).drewN n) R (.slice (some ⟨bk, off, none⟩) L.length lc) p) := fun n => (q0.dN nq).dN n
      clear c0 c1 d4 q0
      generalize w.drewN nq = W1 at c0' c1' d4' HM HQ ⊢
      have j1 : (0 : Int) ≤ (p : Int) := by omega
      have j2 : (p : Int) < (L.length : Int) := by omega
      have j3 : (p : Int).toNat = p := by omega
      go_quiet (fail)
      go_wp2_with fail
      refine (Tryz.strings_HasSuffix ⟨s.toArray⟩ ⟨#[10]⟩ _ (by show s.length ≤ _; omega)).mono ?_
      rintro e w2 ⟨rfl, rfl⟩
      have e1 : Lib.hasSuffix (⟨s.toArray⟩ : ByteArray).data.toList (⟨#[10]⟩ : ByteArray).data.toList = false := (suf_feed s).trans hf
      rw [e1]
      clear e1 hf
      go_wp2_with fail
      refine (nthrow_f 3 _ (HQ.out _) (by omega)).mono ?_
      rintro e w3 ⟨⟨g, rfl, hg⟩, hgr⟩
      go_wp2
      exact ⟨rfl, ⟨_, rfl, hg⟩, grown_two (HM.out _) hgr⟩
  · rw [nxt_end (by omega)] at hX
    subst hX
    obtain ⟨c0, c1⟩ := q.cells
    have e0 : ((p : Int) == (L.length : Int)) = true := beq_iff_eq.2 (by omega)
    have HM : Hid (∀ n, w.grownBy (w.drewN n) (some R)) := fun n => grown_drewN (low_grown (Below.refl _ _) _) n
    have HQ : Hid (∀ n, Ry (w.drewN n) R (.slice lo L.length lc) p) := fun n => q.dN n
    clear q hs hL
    go_enter Tryz.func138, Tryz.ntmps138
    go_wp2_with fail
    go_quiet (fail)
    go_wp2_with fail
    refine (nthrow_f 1 _ (HQ.out _) (by omega)).mono ?_
    rintro e w3 ⟨⟨g, rfl, hg⟩, hgr⟩
    go_wp2
    exact ⟨rfl, ⟨_, rfl, hg⟩, grown_two (HM.out _) hgr⟩
end Go.Proofs.YtgiojkhmkeocfaaGreatDoor

/- What is read in the normal form are right hunks; plain mathematics. -/
set_option maxRecDepth 20000
namespace Go.Proofs.YtgiojkhmkeocfaaGreatDoor
open Ln

theorem sat_pos : ∀ (l : List UInt8) (n : Int), 0 ≤ n → l.all Pn.digB = true → 0 ≤ Pn.sat n l
  | [], _, hn, _ => hn
  | c :: t, n, hn, h => by
    simp only [List.all_cons, Bool.and_eq_true] at h
    have h1 := Pn.digB_out h.1
    rw [Pn.sat]
    exact sat_pos t _ (by omega) h.2
theorem prs_num {s : List UInt8} : 0 ≤ Pn.parseV s ∧ Pn.parseV s ≤ 2147483647 := by
  unfold Pn.parseV
  split
  · rename_i h
    exact ⟨sat_pos s 0 (by omega) (Pn.isNum_all h.1), h.2⟩
  · omega
theorem lns_right {s : List UInt8} {x n : Int} (h : lnsP s = some (x, n)) : 1 ≤ x ∧ x ≤ 2147483647 ∧ 1 ≤ n ∧ n ≤ 2147483647 := by
  unfold lnsP at h
  split at h
  · split at h
    · rename_i y _ z _ hc
      cases h
      have h1 := @prs_num y
      have h2 := @prs_num z
      omega
    · cases h
  · split at h
    · rename_i hc
      cases h
      have h1 := @prs_num s
      omega
    · cases h
theorem one_right {s : List UInt8} {x n : Int} (h : oneP s = some (x, n)) : 0 ≤ x ∧ x ≤ 2147483647 ∧ n = 0 := by
  unfold oneP at h
  split at h
  · cases h
    have h1 := @prs_num s
    omega
  · cases h
theorem cmd_right {s : List UInt8} {A AN B BN : Int} (h : cmdP s = some (A, AN, B, BN)) : (0 ≤ A ∧ A ≤ 2147483647 ∧ 0 ≤ AN ∧ AN ≤ 2147483647 ∧ (0 < AN → 1 ≤ A)) ∧ (0 ≤ B ∧ B ≤ 2147483647 ∧ 0 ≤ BN ∧ BN ≤ 2147483647 ∧ (0 < BN → 1 ≤ B)) ∧ (0 < AN ∨ 0 < BN) := by
  unfold cmdP at h
  split at h
  · cases h
  · rename_i x c y _
    split at h
    · rename_i A' AN' B' BN' h1 h2
      cases h
      by_cases hc : c = 97
      · subst hc
        rw [if_pos rfl] at h1
        rw [if_neg (by decide)] at h2
        have q1 := one_right h1
        have q2 := lns_right h2
        omega
      · rw [if_neg hc] at h1
        have q1 := lns_right h1
        by_cases hd : c = 100
        · subst hd
          rw [if_pos rfl] at h2
          have q2 := one_right h2
          omega
        · rw [if_neg hd] at h2
          have q2 := lns_right h2
          omega
    · cases h
theorem pk_out {no : Int} {l : List Mk} (h : ∀ m ∈ l, m.sg = no) : pkL no l = [] := by
  induction l with
  | nil => rfl
  | cons m l ih =>
    have hm := h m (by simp)
    simp only [pkL]
    rw [if_neg (fun hq => hq.1 hm)]
    exact ih fun x hx => h x (by simp [hx])
theorem pk_in {no s : Int} (hs : s ≠ no) (ho : okS s = true) {l : List Mk} (h : ∀ m ∈ l, m.sg = s) : (pkL no l).length = l.length := by
  induction l with
  | nil => rfl
  | cons m l ih =>
    have hm := h m (by simp)
    simp only [pkL]
    rw [if_pos (by rw [hm]; exact ⟨hs, ho⟩), List.length_cons, List.length_cons, ih fun x hx => h x (by simp [hx])]
theorem fld_last {S no : Int} (hS : okS S = true) (hn : (no = 43 ∧ S = 45) ∨ (no = 45 ∧ S = 43)) : ∀ (l r : List Mk), (∀ m ∈ l, m.sg = S ∧ linB m.tx = true) → (∀ m ∈ l.dropLast, fdB m.tx = true) → (∀ m ∈ r, m.sg = no) → fldB r = true → fldB (l ++ r) = true
  | [], _, _, _, _, hr => hr
  | [m], r, h1, _, h3, hr => by
    obtain ⟨a1, a2⟩ := h1 m (by simp)
    have h4 : lstB S r = true := (by
      unfold lstB
      rw [List.all_eq_true]
      intro x hx
      have := h3 x hx
      rw [this]
      rcases hn with ⟨rfl, rfl⟩ | ⟨rfl, rfl⟩ <;> decide)
    simp only [List.singleton_append, fldB, a1, a2, hS, hr, Bool.and_true, Bool.true_and]
    rcases hn with ⟨rfl, rfl⟩ | ⟨rfl, rfl⟩ <;> simp [h4]
  | m :: x :: l, r, h1, h2, h3, hr => by
    obtain ⟨a1, a2⟩ := h1 m (by simp)
    have h4 : fdB m.tx = true := h2 m (by simp [List.dropLast_cons_cons])
    have := fld_last hS hn (x :: l) r (fun y hy => h1 y (by simp at hy ⊢; exact Or.inr hy)) (fun y hy => h2 y (by rw [List.dropLast_cons_cons]; exact List.mem_cons_of_mem _ hy)) h3 hr
    rw [List.cons_append, fldB, this, a1, a2, hS, h4]
    rfl
/-- a hunk that was read is right -/
theorem hk_right {k p p1 : Nat} {ls r : List (List UInt8)} {h : Hk} (hP : Plain ls) (hh : hkP k p ls = .ok (h, p1, r)) : chkH h = 0 := by
  unfold hkP at hh
  split at hh
  · cases hh
  · rename_i s r0 hn
    obtain ⟨a1, a2⟩ := nxt_len hP hn
    split at hh
    · cases hh
    · rename_i A AN B BN hc
      have hr := cmd_right hc
      split at hh
      · cases hh
      · split at hh
        · cases hh
        · rename_i l1 q1 r1 h1
          obtain ⟨b1, b2, b3, b4, b5, b6⟩ := rdN_ok _ a2 h1
          split at hh
          · cases hh
          · rename_i q2 r2 h2
            have hs : Plain r2 := (by
              split at h2
              · unfold sepP at h2
                split at h2
                · cases h2
                · rename_i s3 r3 hn3
                  obtain ⟨c1, c2⟩ := nxt_len b4 hn3
                  split at h2
                  · cases h2
                    exact c2
                  · cases h2
              · cases h2
                exact b4)
            split at hh
            · cases hh
            · rename_i l2 q3 r3 h3
              obtain ⟨d1, d2, d3, d4, d5, d6⟩ := rdN_ok _ hs h3
              cases hh
              have e1 : rngB ⟨A, AN, B, BN, l1 ++ l2⟩ = true := (by
                simp only [rngB, nat31, Bool.and_eq_true, Bool.not_eq_true', Bool.and_eq_false_iff, decide_eq_true_eq, decide_eq_false_iff_not]
                omega)
              have e2 : fldB (l1 ++ l2) = true := (by
                have g := fld_last (S := 43) (no := 45) (by decide) (Or.inr ⟨rfl, rfl⟩) l2 [] d5 d6 (fun m hm => by cases hm) rfl
                rw [List.append_nil] at g
                exact fld_last (S := 45) (no := 43) (by decide) (Or.inl ⟨rfl, rfl⟩) l1 l2 b5 b6 (fun m hm => (d5 m hm).1) g)
              have e3 : (oldL ⟨A, AN, B, BN, l1 ++ l2⟩).length = l1.length := (by
                show (pkL 43 (l1 ++ l2)).length = _
                rw [pkL_append, List.length_append, pk_in (s := 45) (by decide) (by decide) (fun m hm => (b5 m hm).1), pk_out (fun m hm => (d5 m hm).1)]
                simp)
              have e4 : (newL ⟨A, AN, B, BN, l1 ++ l2⟩).length = l2.length := (by
                show (pkL 45 (l1 ++ l2)).length = _
                rw [pkL_append, List.length_append, pk_out (fun m hm => (b5 m hm).1), pk_in (s := 43) (by decide) (by decide) (fun m hm => (d5 m hm).1)]
                simp)
              have e5 : (l1 ++ l2).all (fun m => decide (m.sg = 32)) = false := (by
                rw [List.all_eq_false]
                rcases hr.2.2 with hq | hq
                · obtain ⟨x, hx⟩ := List.exists_mem_of_length_pos (l := l1) (by omega)
                  exact ⟨x, by simp [hx], by rw [(b5 x hx).1]; decide⟩
                · obtain ⟨x, hx⟩ := List.exists_mem_of_length_pos (l := l2) (by omega)
                  exact ⟨x, by simp [hx], by rw [(d5 x hx).1]; decide⟩)
              unfold chkH
              rw [if_neg (by rw [e1]; decide), if_neg (by rw [e2]; decide), if_neg (by rw [e3, e4]; simp only [b1, d1, not_or, Decidable.not_not]; omega), e5]
              rfl
/-- all hunks that were read are right -/
theorem hks_right (f : Nat) : ∀ {k p : Nat} {ls : List (List UInt8)} {l : List Hk}, Plain ls → hksP f k p ls = .ok l → ∀ h ∈ l, chkH h = 0 := by
  induction f with
  | zero =>
    intro k p ls l _ h
    simp only [hksP] at h
    cases h
    intro x hx
    cases hx
  | succ f ih =>
    intro k p ls l hP h
    simp only [hksP] at h
    split at h
    · cases h
      intro x hx
      cases hx
    · split at h
      · cases h
      · rename_i hk q1 r1 h1
        split at h
        · cases h
        · rename_i l' h2
          cases h
          intro x hx
          rcases List.mem_cons.1 hx with rfl | hx
          · exact hk_right hP h1
          · exact ih (hkP_ok hP h1).2.2 h2 x hx
theorem prs_right {t : List UInt8} {l : List Hk} (h : prsT t = .ok l) : ∀ x ∈ l, chkH x = 0 := by
  unfold prsT at h
  split at h
  · cases h
  · exact hks_right _ (split_plain t) h
end Go.Proofs.YtgiojkhmkeocfaaGreatDoor
