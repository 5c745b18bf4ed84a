/-
  Texts that belong together, joined: NoM2, NoM3, NoPr, NoLen, NoWs, NcW, NcL, NcP, NoRd, NoPk, NoMk, NpE.
-/
import Derived.Test.YtncpkodfcifpkaaGreatDoorPartA17
import Derived.Test.YtncpkodfcifpkaaGreatDoorPartA5
import Derived.Shelf.Strings.BuilderK
import Derived.Test.YtncpkodfcifpkaaGreatDoorProg
import Derived.Test.YtncpkodfcifpkaaGreatDoorPartA6
import Derived.Lib.AppendIntMem
import Derived.Lib.FrozenHead2
import Derived.Test.YtncpkodfcifpkaaGreatDoorPartA7
import Derived.Deep.CutBlock
import Derived.Deep.RegionHeld3
import Derived.WalkLawsBesides

/- What is written in the normal form is read as the hunks without context; plain mathematics. -/
set_option maxRecDepth 20000
namespace Go.Proofs.YtncpkodfcifpkaaGreatDoor
open Ln

/-- bytes of numbers and ranges -/
def numC (c : UInt8) : Bool := Pn.digB c || c == 44
theorem itoa_dig {n : Int} (h : 0 ≤ n) : ∀ c ∈ Lib.itoa n, Pn.digB c = true := by
  intro c hc
  obtain ⟨m, rfl⟩ : ∃ m : Nat, n = m := ⟨n.toNat, by omega⟩
  rw [itoa_nat] at hc
  exact (List.all_eq_true.1 (dec_all m)) c hc
theorem itoa_ne {n : Int} (h : 0 ≤ n) : Lib.itoa n ≠ [] := by
  obtain ⟨m, rfl⟩ : ∃ m : Nat, n = m := ⟨n.toNat, by omega⟩
  rw [itoa_nat]
  exact dec_ne m
theorem rng_num {p n : Int} (hp : 0 ≤ p) (hn : 1 ≤ n) : ∀ c ∈ rngT p n, numC c = true := by
  intro c hc
  unfold rngT at hc
  unfold numC
  split at hc
  · rw [itoa_dig (by omega) c hc]; rfl
  · rcases List.mem_append.1 hc with hc | hc
    · rw [itoa_dig (by omega) c hc]; rfl
    · rcases List.mem_cons.1 hc with rfl | hc
      · simp
      · rw [itoa_dig (by omega) c hc]; rfl
theorem dig_facts {c : UInt8} (h : Pn.digB c = true) : isC c = false ∧ isK c = false ∧ c ≠ 10 ∧ c ≠ 92 := by
  have h1 := Pn.digB_out h
  refine ⟨?_, ?_, ?_, ?_⟩
  · unfold isC
    simp only [Bool.or_eq_false_iff, beq_eq_false_iff_ne]
    refine ⟨⟨?_, ?_⟩, ?_⟩ <;> (rintro rfl; simp at h1)
  · unfold isK
    rw [beq_eq_false_iff_ne]
    rintro rfl
    simp at h1
  · rintro rfl
    simp at h1
  · rintro rfl
    simp at h1
theorem num_facts {c : UInt8} (h : numC c = true) : isC c = false ∧ c ≠ 10 ∧ c ≠ 92 := by
  unfold numC at h
  rcases Bool.or_eq_true_iff.1 h with h | h
  · have := dig_facts h
    exact ⟨this.1, this.2.2.1, this.2.2.2⟩
  · have : c = 44 := by simpa using h
    subst this
    decide
theorem spB_app {q : UInt8 → Bool} {x y : List UInt8} {d : UInt8} (hx : ∀ c ∈ x, q c = false) (hd : q d = true) : spB q (x ++ d :: y) = some (x, d, y) := by
  induction x with
  | nil => simp [spB, hd]
  | cons c x ih =>
    simp only [List.cons_append, spB]
    rw [if_neg (by rw [hx c (by simp)]; decide), ih fun z hz => hx z (by simp [hz])]
theorem spB_none {q : UInt8 → Bool} {x : List UInt8} (hx : ∀ c ∈ x, q c = false) : spB q x = none := by
  induction x with
  | nil => rfl
  | cons c x ih =>
    simp only [spB]
    rw [if_neg (by rw [hx c (by simp)]; decide), ih fun z hz => hx z (by simp [hz])]
theorem lnsP_rng {p n : Int} (hp : 0 ≤ p) (hn : 1 ≤ n) (hb : p + n ≤ 2147483647) : lnsP (rngT p n) = some (p + 1, n) := by
  unfold rngT
  by_cases h1 : n = 1
  · rw [if_pos h1]
    unfold lnsP
    rw [spB_none (fun c hc => (dig_facts (itoa_dig (by omega) c hc)).2.1)]
    obtain ⟨e1, e2⟩ := parse_itoa_ok (n := p + 1) (by omega) (by omega)
    have hc : Pn.parseE (Lib.itoa (p + 1)) = 0 ∧ 1 ≤ Pn.parseV (Lib.itoa (p + 1)) := ⟨e2, by rw [e1]; omega⟩
    simp only
    rw [if_pos hc, e1, h1]
  · rw [if_neg h1]
    unfold lnsP
    rw [spB_app (fun c hc => (dig_facts (itoa_dig (by omega) c hc)).2.1) (by decide)]
    obtain ⟨e1, e2⟩ := parse_itoa_ok (n := p + 1) (by omega) (by omega)
    obtain ⟨e3, e4⟩ := parse_itoa_ok (n := p + n) (by omega) (by omega)
    have hc : Pn.parseE (Lib.itoa (p + 1)) = 0 ∧ Pn.parseE (Lib.itoa (p + n)) = 0 ∧ 1 ≤ Pn.parseV (Lib.itoa (p + 1)) ∧ Pn.parseV (Lib.itoa (p + 1)) < Pn.parseV (Lib.itoa (p + n)) := ⟨e2, e4, by rw [e1]; omega, by rw [e1, e3]; omega⟩
    simp only
    rw [if_pos hc, e1, e3]
    congr 2
    omega
theorem oneP_itoa {n : Int} (h : 0 ≤ n) (hb : n ≤ 2147483647) : oneP (Lib.itoa n) = some (n, 0) := by
  unfold oneP
  obtain ⟨e1, e2⟩ := parse_itoa_ok h hb
  rw [if_pos e2, e1]
/-- the numbers that a hunk without context says -/
def noA (p n : Int) : Int := if 0 < n then p + 1 else p
theorem cmd_back {c : Ch} (hn : numB c = true) (hA : c.A + c.AN ≤ 2147483647) (hB : c.B + c.BN ≤ 2147483647) : cmdP (cmdT c) = some (noA c.A c.AN, c.AN, noA c.B c.BN, c.BN) := by
  have h := (numB_iff c).1 hn
  unfold cmdT cmdP noA
  by_cases h1 : c.AN = 0
  · have hb : 0 < c.BN := by omega
    rw [if_pos h1, spB_app (fun x hx => (dig_facts (itoa_dig (by omega) x hx)).1) (by decide)]
    simp only [if_true]
    rw [if_neg (by decide), oneP_itoa (by omega) (by omega), lnsP_rng (by omega) (by omega) hB, h1, if_pos hb]
    rfl
  · have ha : 0 < c.AN := by omega
    rw [if_neg h1, if_pos ha]
    by_cases h2 : c.BN = 0
    · rw [if_pos h2, spB_app (fun x hx => (num_facts (rng_num (by omega) (by omega) x hx)).1) (by decide)]
      simp only [if_true]
      rw [if_neg (by decide), lnsP_rng (by omega) (by omega) hA, oneP_itoa (by omega) (by omega), h2]
      rfl
    · have hb : 0 < c.BN := by omega
      rw [if_neg h2, spB_app (fun x hx => (num_facts (rng_num (by omega) (by omega) x hx)).1) (by decide)]
      simp only
      rw [if_neg (by decide), if_neg (by decide), lnsP_rng (by omega) (by omega) hA, lnsP_rng (by omega) (by omega) hB, if_pos hb]
theorem cmd_bytes {c : Ch} (hn : numB c = true) : (∀ x ∈ cmdT c, x ≠ 10) ∧ ∃ y t, cmdT c = y :: t ∧ y ≠ 92 := by
  have h := (numB_iff c).1 hn
  have hd : ∀ (n : Int) (t : List UInt8), 0 ≤ n → ∃ y u, Lib.itoa n ++ t = y :: u ∧ y ≠ 92 := by
    intro n t h0
    cases hq : Lib.itoa n with
    | nil => exact absurd hq (itoa_ne h0)
    | cons y u =>
      refine ⟨y, u ++ t, rfl, ?_⟩
      exact (dig_facts (itoa_dig h0 y (by rw [hq]; simp))).2.2.2
  have hr : ∀ (p n : Int) (t : List UInt8), 0 ≤ p → ∃ y u, rngT p n ++ t = y :: u ∧ y ≠ 92 := by
    intro p n t h0
    unfold rngT
    split
    · exact hd _ _ (by omega)
    · rw [List.append_assoc]
      exact hd _ _ (by omega)
  unfold cmdT
  split
  · rename_i h1
    refine ⟨?_, hd _ _ (by omega)⟩
    intro x hx
    rcases List.mem_append.1 hx with hx | hx
    · exact (dig_facts (itoa_dig (by omega) x hx)).2.2.1
    · rcases List.mem_cons.1 hx with rfl | hx
      · decide
      · exact (num_facts (rng_num (by omega) (by omega) x hx)).2.1
  · split
    · refine ⟨?_, hr _ _ _ (by omega)⟩
      intro x hx
      rcases List.mem_append.1 hx with hx | hx
      · exact (num_facts (rng_num (by omega) (by omega) x hx)).2.1
      · rcases List.mem_cons.1 hx with rfl | hx
        · decide
        · exact (dig_facts (itoa_dig (by omega) x hx)).2.2.1
    · refine ⟨?_, hr _ _ _ (by omega)⟩
      intro x hx
      rcases List.mem_append.1 hx with hx | hx
      · exact (num_facts (rng_num (by omega) (by omega) x hx)).2.1
      · rcases List.mem_cons.1 hx with rfl | hx
        · decide
        · exact (num_facts (rng_num (by omega) (by omega) x hx)).2.1
/-- lines that all are lines, and have their line feed but for the last one -/
def Rows : List (List UInt8) → Prop
  | [] => True
  | x :: r => linB x = true ∧ (r ≠ [] → fdB x = true) ∧ Rows r
theorem lin_no {x : List UInt8} (h : linB x = true) : x ≠ [] ∧ ∀ c ∈ x.dropLast, c ≠ 10 := by
  unfold linB at h
  simp only [Bool.and_eq_true] at h
  refine ⟨?_, fun c hc => ?_⟩
  · rintro rfl
    simp at h
  · have := (List.all_eq_true.1 h.2) c hc
    simpa using this
theorem fd_form {x : List UInt8} (h : fdB x = true) : x = x.dropLast ++ [10] := by
  unfold fdB at h
  have h1 : x.getLast? = some 10 := by simpa using h
  obtain ⟨q, rfl⟩ := List.getLast?_eq_some_iff.1 h1
  simp
theorem fd_app {ah x : List UInt8} (h : fdB x = true) : fdB (ah ++ x) = true ∧ (ah ++ x).dropLast = ah ++ x.dropLast := by
  have e := fd_form h
  rw [e, ← List.append_assoc]
  refine ⟨fd_snoc _, ?_⟩
  simp
theorem rd_back (ah : List UInt8) (S : Int) (xs : List (List UInt8)) : ∀ (p : Nat) (rest : List (List UInt8)), Rows xs → pkM rest = false → ∃ p', rdN ah S xs.length p (xs.flatMap (lnL ah) ++ rest) = .ok (mks S xs, p', rest) := by
  induction xs with
  | nil => intro p rest _ _; exact ⟨p, rfl⟩
  | cons x xs ih =>
    intro p rest hR hp
    obtain ⟨h1, h2, h3⟩ := hR
    simp only [List.length_cons, rdN, List.flatMap_cons, List.append_assoc]
    cases hf : fdB x with
    | true =>
      have hl : lnL ah x = [ah ++ x] := by unfold lnL; rw [if_pos hf]
      obtain ⟨e1, e2⟩ := fd_app (ah := ah) hf
      have hm : mkd ah (xs.length == 0) p ([ah ++ x] ++ (xs.flatMap (lnL ah) ++ rest)) = .ok (x, p + 1, xs.flatMap (lnL ah) ++ rest) := by
        unfold mkd
        simp only [List.singleton_append, nxt, e1, if_true, e2]
        rw [if_pos (by simp), if_neg ?_]
        · simp only [List.drop_left]
          rw [← fd_form hf]
        · cases xs with
          | nil => simp [hp]
          | cons y ys => simp
      rw [hl, hm]
      obtain ⟨p', hq⟩ := ih (p + 1) rest h3 hp
      simp only [hq]
      exact ⟨p', rfl⟩
    | false =>
      have hx : xs = [] := by
        cases xs with
        | nil => rfl
        | cons y ys => have := h2 (by simp); rw [hf] at this; cases this
      subst hx
      have hl : lnL ah x = [ah ++ x ++ [10], markT] := by unfold lnL; rw [if_neg (by rw [hf]; decide)]
      have hm : mkd ah (([] : List (List UInt8)).length == 0) p ([ah ++ x ++ [10], markT] ++ (([] : List (List UInt8)).flatMap (lnL ah) ++ rest)) = .ok (x, p + 2, rest) := by
        unfold mkd
        simp only [List.cons_append, List.nil_append, nxt, fd_snoc, if_true, List.dropLast_concat]
        rw [if_pos (by simp), if_pos (by simp [pkM]), if_neg (by simp only [List.drop_left]; exact (lin_no h1).1)]
        simp
      rw [hl, hm]
      exact ⟨p + 2, rfl⟩
/-- behind old lines there is no mark -/
theorem pk_new {ah : List UInt8} {xs rest : List (List UInt8)} (ha : ah.head? = some 62) (hp : pkM rest = false) : pkM (xs.flatMap (lnL ah) ++ rest) = false := by
  cases xs with
  | nil => exact hp
  | cons x xs =>
    cases ah with
    | nil => cases ha
    | cons y ah =>
      simp only [List.head?_cons, Option.some.injEq] at ha
      subst ha
      rw [List.flatMap_cons, lnL]
      split <;> rfl
/-- a change is read as its hunk -/
theorem hk_back {a b : List (List UInt8)} {c : Ch} {k p : Nat} {rest : List (List UInt8)} (hn : numB c = true) (hA : c.A + c.AN ≤ 2147483647) (hB : c.B + c.BN ≤ 2147483647) (hAl : (cut a c.A c.AN).length = c.AN.toNat) (hBl : (cut b c.B c.BN).length = c.BN.toNat) (hRa : Rows (cut a c.A c.AN)) (hRb : Rows (cut b c.B c.BN)) (hk : k < 4096) (hp : pkM rest = false) : ∃ p', hkP k p (chgL a b c ++ rest) = .ok (⟨noA c.A c.AN, c.AN, noA c.B c.BN, c.BN, mks 45 (cut a c.A c.AN) ++ mks 43 (cut b c.B c.BN)⟩, p', rest) := by
  have hb := pk_new (ah := [62, 32]) (xs := cut b c.B c.BN) (rest := rest) (by decide) hp
  have hs : pkM (sepL c ++ ((cut b c.B c.BN).flatMap (lnL [62, 32]) ++ rest)) = false := by
    unfold sepL
    split
    · rfl
    · exact hb
  obtain ⟨p1, h1⟩ := rd_back [60, 32] 45 (cut a c.A c.AN) (p + 1) (sepL c ++ ((cut b c.B c.BN).flatMap (lnL [62, 32]) ++ rest)) hRa hs
  have h2 : ∃ p2, (if 0 < c.AN ∧ 0 < c.BN then sepP p1 (sepL c ++ ((cut b c.B c.BN).flatMap (lnL [62, 32]) ++ rest)) else .ok (p1, sepL c ++ ((cut b c.B c.BN).flatMap (lnL [62, 32]) ++ rest))) = .ok (p2, (cut b c.B c.BN).flatMap (lnL [62, 32]) ++ rest) := by
    unfold sepL
    by_cases hq : 0 < c.AN ∧ 0 < c.BN
    · rw [if_pos hq, if_pos hq]
      refine ⟨p1 + 1, ?_⟩
      unfold sepP
      rfl
    · rw [if_neg hq, if_neg hq]
      exact ⟨p1, rfl⟩
  obtain ⟨p2, h2⟩ := h2
  obtain ⟨p3, h3⟩ := rd_back [62, 32] 43 (cut b c.B c.BN) p2 rest hRb hp
  refine ⟨p3, ?_⟩
  rw [hAl] at h1
  rw [hBl] at h3
  unfold hkP chgL
  simp only [List.cons_append, nxt, fd_snoc, if_true, List.dropLast_concat, cmd_back hn hA hB, List.append_assoc]
  rw [if_neg (by omega)]
  simp only [h1, h2, h3]
end Go.Proofs.YtncpkodfcifpkaaGreatDoor

/- The normal form of an edit script: read again it is the hunks without context; a part of it is never read as the whole; plain mathematics. -/
set_option maxRecDepth 20000
namespace Go.Proofs.YtncpkodfcifpkaaGreatDoor
open Ln

theorem rows_of {a : List (List UInt8)} (h : checkB a = true) : Rows a := by
  induction a with
  | nil => trivial
  | cons s t ih =>
    simp only [checkB, Bool.and_eq_true] at h
    have h1 := h.1
    rw [lineB_eq] at h1
    simp only [Bool.and_eq_true, Bool.or_eq_true] at h1
    refine ⟨h1.1, fun hne => ?_, ih h.2⟩
    rcases h1.2 with h2 | h2
    · cases t with
      | nil => exact absurd rfl hne
      | cons => cases h2
    · exact h2
theorem rows_drop {a : List (List UInt8)} (n : Nat) (h : Rows a) : Rows (a.drop n) := by
  induction n generalizing a with
  | zero => exact h
  | succ n ih =>
    cases a with
    | nil => trivial
    | cons s t => exact ih h.2.2
theorem rows_take {a : List (List UInt8)} (n : Nat) (h : Rows a) : Rows (a.take n) := by
  induction n generalizing a with
  | zero => trivial
  | succ n ih =>
    cases a with
    | nil => trivial
    | cons s t =>
      refine ⟨h.1, fun hne => h.2.1 fun e => ?_, ih h.2.2⟩
      subst e
      simp at hne
theorem rows_cut {a : List (List UInt8)} (h : checkB a = true) (p n : Int) : Rows (cut a p n) := rows_take _ (rows_drop _ (rows_of h))
theorem rows_lin {a : List (List UInt8)} (h : Rows a) : ∀ x ∈ a, linB x = true := by
  induction a with
  | nil => intro x hx; cases hx
  | cons s t ih =>
    intro x hx
    rcases List.mem_cons.1 hx with rfl | hx
    · exact h.1
    · exact ih h.2.2 x hx
theorem npk_mks {no sg : Int} (t : List (List UInt8)) : pkL no (mks sg t) = if sg ≠ no ∧ okS sg = true then t else [] := by
  induction t with
  | nil => simp [mks, pkL]
  | cons s t ih =>
    have e : mks sg (s :: t) = ⟨sg, s⟩ :: mks sg t := rfl
    rw [e, pkL, ih]
    split <;> rfl
/-- the hunk of one change without context -/
theorem one_zero {a b : List (List UInt8)} {c : Ch} (hn : numB c = true) (hA : c.A + c.AN ≤ a.length) (hB : c.B + c.BN ≤ b.length) : oneH a b 0 [c] = ⟨noA c.A c.AN, c.AN, noA c.B c.BN, c.BN, mks 45 (cut a c.A c.AN) ++ mks 43 (cut b c.B c.BN)⟩ := by
  have h := (numB_iff c).1 hn
  have e : bodyH a b (min (a.length : Int) (c.A + c.AN + 0)) (c.A - min 0 c.A) [c] = mks 45 (cut a c.A c.AN) ++ mks 43 (cut b c.B c.BN) := by
    rw [show min (a.length : Int) (c.A + c.AN + 0) = c.A + c.AN by omega, show c.A - min 0 c.A = c.A by omega]
    simp only [bodyH]
    rw [show c.A - c.A = (0 : Int) by omega, show c.A + c.AN - (c.A + c.AN) = (0 : Int) by omega, cut_zero, cut_zero]
    simp [mks]
  have l1 : ((cut a c.A c.AN).length : Int) = c.AN := hcut_length (by omega) (by omega) hA
  have l2 : ((cut b c.B c.BN).length : Int) = c.BN := hcut_length (by omega) (by omega) hB
  have p1 : pkL 43 (mks 45 (cut a c.A c.AN) ++ mks 43 (cut b c.B c.BN)) = cut a c.A c.AN := by
    rw [pkL_append, npk_mks, npk_mks, if_pos (by decide), if_neg (by decide), List.append_nil]
  have p2 : pkL 45 (mks 45 (cut a c.A c.AN) ++ mks 43 (cut b c.B c.BN)) = cut b c.B c.BN := by
    rw [pkL_append, npk_mks, npk_mks, if_neg (by decide), if_pos (by decide), List.nil_append]
  show cntH (c.A - min 0 c.A) (c.B - min 0 c.A) (bodyH a b (min (a.length : Int) (c.A + c.AN + 0)) (c.A - min 0 c.A) [c]) = _
  rw [e]
  unfold cntH noA
  rw [p1, p2, l1, l2, show c.A - min 0 c.A = c.A by omega, show c.B - min 0 c.A = c.B by omega]
  have q1 : (0 < (cut a c.A c.AN).length) = (0 < c.AN) := propext ⟨fun q => by omega, fun q => by omega⟩
  have q2 : (0 < (cut b c.B c.BN).length) = (0 < c.BN) := propext ⟨fun q => by omega, fun q => by omega⟩
  simp only [q1, q2]
theorem right_mem {fl : Bool} {p q n m : Int} {l : List Ch} (h : Right fl p q n m l) : ∀ c ∈ l, numB c = true ∧ c.A + c.AN ≤ n ∧ c.B + c.BN ≤ m := by
  induction l generalizing fl p q with
  | nil => intro c hc; cases hc
  | cons x l ih =>
    intro c hc
    rcases List.mem_cons.1 hc with rfl | hc
    · exact ⟨h.1.1, h.2.le.1, h.2.le.2.1⟩
    · exact ih h.2 c hc
theorem mk_zero {l : List Ch} {a b : List (List UInt8)} (hs : Script l a.length b.length) : mkR l a b 0 = l.map fun c => oneH a b 0 [c] := by
  rw [(mkR_eq hs (by omega)).1, grp_zero l _ _ _ _ _ hs.2.2]
  simp
theorem pk_prt {l : List Ch} {a b : List (List UInt8)} (h : ∀ c ∈ l, numB c = true) : pkM (prtL l a b) = false := by
  cases l with
  | nil => rfl
  | cons c l =>
    obtain ⟨_, y, t, e, hy⟩ := cmd_bytes (h c (by simp))
    unfold prtL
    rw [List.flatMap_cons, chgL, e]
    simp only [List.cons_append, pkM, markT, List.isPrefixOf]
    have : ((92 : UInt8) == y) = false := by rw [beq_eq_false_iff_ne]; exact fun q => hy q.symm
    rw [this]
    rfl
/-- what was written is read again -/
theorem hks_back {a b : List (List UInt8)} (ha : checkB a = true) (hb : checkB b = true) (hal : a.length ≤ 2147483647) (hbl : b.length ≤ 2147483647) (l : List Ch) : ∀ (f k p : Nat), (∀ c ∈ l, numB c = true ∧ c.A + c.AN ≤ a.length ∧ c.B + c.BN ≤ b.length) → k + l.length ≤ 4096 → (prtL l a b).length ≤ f → hksP f k p (prtL l a b) = .ok (l.map fun c => oneH a b 0 [c]) := by
  induction l with
  | nil =>
    intro f k p _ _ _
    cases f <;> rfl
  | cons c l ih =>
    intro f k p h hk hf
    have hc := h c (by simp)
    have hn := (numB_iff c).1 hc.1
    have e : prtL (c :: l) a b = chgL a b c ++ prtL l a b := rfl
    rw [e] at hf ⊢
    have l1 : ((cut a c.A c.AN).length : Int) = c.AN := hcut_length (by omega) (by omega) hc.2.1
    have l2 : ((cut b c.B c.BN).length : Int) = c.BN := hcut_length (by omega) (by omega) hc.2.2
    obtain ⟨p', hh⟩ := hk_back (k := k) (p := p) (rest := prtL l a b) hc.1 (by omega) (by omega) (by omega) (by omega) (rows_cut ha c.A c.AN) (rows_cut hb c.B c.BN) (by simp at hk; omega) (pk_prt fun x hx => (h x (by simp [hx])).1)
    have hlen : 1 ≤ (chgL a b c).length := by simp [chgL]
    rw [List.length_append] at hf
    cases f with
    | zero => omega
    | succ f =>
      have hi := ih f (k + 1) p' (fun x hx => h x (by simp [hx])) (by simp at hk; omega) (by omega)
      simp only [hksP]
      rw [if_neg (by simp [chgL]), hh]
      simp only [hi]
      simp only [List.map_cons]
      rw [one_zero hc.1 hc.2.1 hc.2.2]
/-- all lines that are written have their line feed, at the end alone -/
def Fed (ls : List (List UInt8)) : Prop := ∀ s ∈ ls, ∃ t, s = t ++ [10] ∧ ∀ c ∈ t, c ≠ 10
theorem fed_check {ls : List (List UInt8)} (h : Fed ls) : checkB ls = true := by
  induction ls with
  | nil => rfl
  | cons s r ih =>
    obtain ⟨t, e, ht⟩ := h s (by simp)
    simp only [checkB, Bool.and_eq_true]
    refine ⟨?_, ih fun x hx => h x (by simp [hx])⟩
    rw [e]
    exact lineB_cut ht _
theorem fed_line {ah x : List UInt8} (ha : ∀ c ∈ ah, c ≠ 10) (hx : linB x = true) : Fed (lnL ah x) := by
  obtain ⟨h0, h1⟩ := lin_no hx
  unfold lnL
  split
  · rename_i hf
    intro s hs
    rw [List.mem_singleton.1 hs]
    refine ⟨ah ++ x.dropLast, ?_, ?_⟩
    · rw [List.append_assoc, ← fd_form hf]
    · intro c hc
      rcases List.mem_append.1 hc with hc | hc
      · exact ha c hc
      · exact h1 c hc
  · rename_i hf
    intro s hs
    rcases List.mem_cons.1 hs with rfl | hs
    · refine ⟨ah ++ x, rfl, ?_⟩
      intro c hc
      rcases List.mem_append.1 hc with hc | hc
      · exact ha c hc
      · intro e
        subst e
        rcases List.eq_nil_or_concat x with rfl | ⟨q, y, rfl⟩
        · cases hc
        · rw [List.concat_eq_append] at hc hf h1
          rcases List.mem_append.1 hc with hc | hc
          · exact h1 10 (by simpa using hc) rfl
          · have : y = 10 := (List.mem_singleton.1 hc).symm
            subst this
            exact hf (fd_snoc q)
    · rw [List.mem_singleton.1 hs]
      refine ⟨markT.dropLast, rfl, ?_⟩
      decide
theorem fed_prt {a b : List (List UInt8)} (ha : checkB a = true) (hb : checkB b = true) {l : List Ch} (h : ∀ c ∈ l, numB c = true) : Fed (prtL l a b) := by
  intro s hs
  obtain ⟨c, hc, hs⟩ := List.mem_flatMap.1 hs
  unfold chgL at hs
  rcases List.mem_cons.1 hs with rfl | hs
  · exact ⟨cmdT c, rfl, (cmd_bytes (h c hc)).1⟩
  · rcases List.mem_append.1 hs with hs | hs
    · obtain ⟨x, hx, hs⟩ := List.mem_flatMap.1 hs
      exact fed_line (by decide) (rows_lin (rows_cut ha c.A c.AN) x hx) s hs
    · rcases List.mem_append.1 hs with hs | hs
      · unfold sepL at hs
        split at hs
        · rw [List.mem_singleton.1 hs]
          exact ⟨[45, 45, 45], rfl, by decide⟩
        · cases hs
      · obtain ⟨x, hx, hs⟩ := List.mem_flatMap.1 hs
        exact fed_line (by decide) (rows_lin (rows_cut hb c.B c.BN) x hx) s hs
theorem split_prt {a b : List (List UInt8)} (ha : checkB a = true) (hb : checkB b = true) {l : List Ch} (h : ∀ c ∈ l, numB c = true) : splitL (prtT l a b) = prtL l a b := right_split _ (fed_check (fed_prt ha hb h))
/-- 12.3: what is written of right lines is read as the hunks without context -/
theorem normal_back {l : List Ch} {a b : List (List UInt8)} (hs : Script l a.length b.length) (ha : checkB a = true) (hb : checkB b = true) (hal : a.length ≤ 1000000) (hbl : b.length ≤ 1000000) (hl : l.length ≤ 4096) : prsT (prtT l a b) = if 1048576 < (prtT l a b).length then .error (0, 9) else .ok (mkR l a b 0) := by
  have hm := right_mem hs.2.2
  unfold prsT
  rw [split_prt ha hb fun c hc => (hm c hc).1, hks_back ha hb (by omega) (by omega) l _ 0 0 hm (by omega) (Nat.le_refl _), mk_zero hs]
/-- what was read had its line feeds -/
def Alf (c : List (List UInt8)) : Prop := ∀ s ∈ c, fdB s = true
theorem alf_app {x y : List (List UInt8)} (hx : Alf x) (hy : Alf y) : Alf (x ++ y) := fun s hs => (List.mem_append.1 hs).elim (hx s) (hy s)
theorem mark_fed {s : List UInt8} (hp : ∀ c ∈ s.dropLast, c ≠ 10) (h : markT.isPrefixOf s = true) : fdB s = true := by
  obtain ⟨t, rfl⟩ := List.isPrefixOf_iff_prefix.1 h
  cases t with
  | nil => rfl
  | cons x t =>
    exfalso
    refine hp 10 ?_ rfl
    rw [List.dropLast_append_of_ne_nil (by simp)]
    exact List.mem_append_left _ (by decide)
theorem nxt_fed {p : Nat} {ls r : List (List UInt8)} {s : List UInt8} (h : nxt p ls = .ok (s, r)) : ∃ c, ls = c ++ r ∧ Alf c := by
  refine ⟨[s ++ [10]], nxt_ok h, ?_⟩
  intro x hx
  rw [List.mem_singleton.1 hx]
  exact fd_snoc s
theorem mkd_fed {sg : List UInt8} {last : Bool} {p p1 : Nat} {ls r : List (List UInt8)} {t : List UInt8} (hP : Plain ls) (h : mkd sg last p ls = .ok (t, p1, r)) : ∃ c, ls = c ++ r ∧ Alf c := by
  unfold mkd at h
  split at h
  · cases h
  · rename_i s r0 hn
    obtain ⟨c, e, hc⟩ := nxt_fed hn
    split at h
    · split at h
      · rename_i hl
        split at h
        · cases h
        · cases h
          simp only [Bool.and_eq_true] at hl
          cases r0 with
          | nil => simp [pkM] at hl
          | cons y r0 =>
            refine ⟨c ++ [y], by rw [e]; simp, alf_app hc ?_⟩
            intro x hx
            rw [List.mem_singleton.1 hx]
            exact mark_fed (hP y (by rw [e]; simp)) hl.2
      · cases h
        exact ⟨c, e, hc⟩
    · cases h
theorem rdN_fed {sg : List UInt8} {S : Int} (n : Nat) : ∀ {p p1 : Nat} {ls r : List (List UInt8)} {l : List Mk}, Plain ls → rdN sg S n p ls = .ok (l, p1, r) → ∃ c, ls = c ++ r ∧ Alf c := by
  induction n with
  | zero =>
    intro p p1 ls r l hP h
    simp only [rdN] at h
    cases h
    exact ⟨[], rfl, fun s hs => by cases hs⟩
  | succ n ih =>
    intro p p1 ls r l hP h
    simp only [rdN] at h
    split at h
    · cases h
    · rename_i t q1 r1 hm
      obtain ⟨c1, e1, hc1⟩ := mkd_fed hP hm
      have hP1 := (mkd_ok hP hm).2.2.1
      split at h
      · cases h
      · rename_i l' q2 r2 hr
        obtain ⟨c2, e2, hc2⟩ := ih hP1 hr
        cases h
        exact ⟨c1 ++ c2, by rw [e1, e2]; simp, alf_app hc1 hc2⟩
theorem hkP_fed {k p p1 : Nat} {ls r : List (List UInt8)} {h : Hk} (hP : Plain ls) (hh : hkP k p ls = .ok (h, p1, r)) : ∃ c, ls = c ++ r ∧ Alf c := by
  unfold hkP at hh
  split at hh
  · cases hh
  · rename_i s r0 hn
    obtain ⟨c0, e0, hc0⟩ := nxt_fed hn
    have hP0 := (nxt_len hP hn).2
    split at hh
    · cases hh
    · rename_i A AN B BN hc
      split at hh
      · cases hh
      · split at hh
        · cases hh
        · rename_i l1 q1 r1 h1
          obtain ⟨c1, e1, hc1⟩ := rdN_fed _ hP0 h1
          have hP1 := (rdN_ok _ hP0 h1).2.2.2.1
          split at hh
          · cases hh
          · rename_i q2 r2 h2
            have hs : (∃ c, r1 = c ++ r2 ∧ Alf c) ∧ Plain r2 := (by
              split at h2
              · unfold sepP at h2
                split at h2
                · cases h2
                · rename_i s3 r3 hn3
                  split at h2
                  · cases h2
                    exact ⟨nxt_fed hn3, (nxt_len hP1 hn3).2⟩
                  · cases h2
              · cases h2
                exact ⟨⟨[], rfl, fun s hs => by cases hs⟩, hP1⟩)
            obtain ⟨⟨c2, e2, hc2⟩, hP2⟩ := hs
            split at hh
            · cases hh
            · rename_i l2 q3 r3 h3
              obtain ⟨c3, e3, hc3⟩ := rdN_fed _ hP2 h3
              cases hh
              exact ⟨c0 ++ (c1 ++ (c2 ++ c3)), by rw [e0, e1, e2, e3]; simp, alf_app hc0 (alf_app hc1 (alf_app hc2 hc3))⟩
theorem hksP_fed (f : Nat) : ∀ {k p : Nat} {ls : List (List UInt8)} {l : List Hk}, Plain ls → ls.length ≤ f → hksP f k p ls = .ok l → Alf ls := by
  induction f with
  | zero =>
    intro k p ls l hP hf h
    have : ls = [] := List.eq_nil_of_length_eq_zero (by omega)
    subst this
    intro s hs
    cases hs
  | succ f ih =>
    intro k p ls l hP hf h
    simp only [hksP] at h
    split at h
    · rename_i he
      subst he
      intro s hs
      cases hs
    · split at h
      · cases h
      · rename_i hk q1 r1 h1
        obtain ⟨a1, a2, a3⟩ := hkP_ok hP h1
        obtain ⟨c, e, hc⟩ := hkP_fed hP h1
        have hpos : 0 < hkC1 hk := by unfold hkC1; omega
        split at h
        · cases h
        · rename_i l' h2
          have := ih a3 (by omega) h2
          rw [e]
          exact alf_app hc this
/-- what is read ends with a line feed -/
theorem prs_feed {t : List UInt8} {l : List Hk} (h : prsT t = .ok l) : t = [] ∨ fdB t = true := by
  unfold prsT at h
  split at h
  · cases h
  · have hf := hksP_fed _ (split_plain t) (Nat.le_refl _) h
    have hj := split_join t
    cases hq : splitL t with
    | nil => left; exact split_nil hq
    | cons x r =>
      right
      rw [hq] at hj hf
      have hl : ∀ (x : List UInt8) (r : List (List UInt8)), Alf (x :: r) → fdB (x :: r).flatten = true := by
        intro x r
        induction r generalizing x with
        | nil =>
          intro h1
          have := h1 x (by simp)
          simpa using this
        | cons y r ih =>
          intro h1
          have := ih y fun s hs => h1 s (by simp [hs])
          rw [List.flatten_cons]
          exact (fd_app this).1
      rw [← hj]
      exact hl x r hf
theorem prs_count {t : List UInt8} {l : List Hk} (h : prsT t = .ok l) : hksC l = (splitL t).length := by
  unfold prsT at h
  split at h
  · cases h
  · exact hksP_ok _ (split_plain t) (Nat.le_refl _) h
/-- a part of what is written is never read as the whole -/
theorem normal_cut {s : List UInt8} {l : List Hk} (hw : prsT s = .ok l) {k : Nat} (hk : k < s.length) : prsT (s.take k) ≠ .ok l := by
  intro hp
  have c1 := prs_count hw
  have c2 := prs_count hp
  have f1 := prs_feed hw
  have f2 := prs_feed hp
  have g1 := split_count s
  have g2 := split_count (s.take k)
  have hfb : ∀ x : List UInt8, feedB x = fdB x := fun x => rfl
  have hs : s ≠ [] := by rintro rfl; simp at hk
  have e1 : (feedB s || s.isEmpty) = true := by
    rcases f1 with f1 | f1
    · exact absurd f1 hs
    · rw [hfb, f1]; rfl
  have e2 : (feedB (s.take k) || (s.take k).isEmpty) = true := by
    rcases f2 with f2 | f2
    · rw [f2]; rfl
    · rw [hfb, f2]; rfl
  rw [e1] at g1
  rw [e2] at g2
  simp only [if_true] at g1 g2
  have g3 : s.count 10 = (s.take k).count 10 + (s.drop k).count 10 := by
    rw [← List.count_append, List.take_append_drop]
  have g4 : 0 < (s.drop k).count 10 := by
    rw [List.count_pos_iff]
    rcases f1 with f1 | f1
    · exact absurd f1 hs
    · have h1 : s.getLast? = some 10 := by simpa [fdB] using f1
      have h2 : (s.drop k).getLast? = some 10 := by
        rw [List.getLast?_drop, if_neg (by omega), h1]
      exact List.mem_of_getLast? h2
  omega
end Go.Proofs.YtncpkodfcifpkaaGreatDoor

/- The reference's Print of the normal form, walked. -/
set_option maxRecDepth 20000
namespace Go.Proofs.YtncpkodfcifpkaaGreatDoor
open Go.RowKit

theorem prt_more {l : List Ch} {a b : List (List UInt8)} {k : Nat} (hk : k < l.length) : prtT (l.take (k + 1)) a b = prtT (l.take k) a b ++ (chgL a b l[k]).flatten := by
  unfold prtT prtL
  rw [List.take_succ_eq_append_getElem hk, List.flatMap_append, List.flatten_append, List.flatMap_singleton]
theorem prt_pre {l : List Ch} {a b : List (List UInt8)} (k : Nat) : (prtT (l.take k) a b).length ≤ (prtT l a b).length := by
  have e : prtT l a b = prtT (l.take k) a b ++ prtT (l.drop k) a b := by
    unfold prtT prtL
    rw [← List.flatten_append, ← List.flatMap_append, List.take_append_drop]
  rw [e, List.length_append]
  omega
/-- how long what is written is -/
theorem lnL_len (ah s : List UInt8) : (lnL ah s).flatten.length ≤ ah.length + s.length + 29 := by
  unfold lnL
  split <;> simp [markT] <;> omega
theorem lns_len (ah : List UInt8) (x : List (List UInt8)) : (x.flatMap (lnL ah)).flatten.length ≤ x.length * (ah.length + 29) + x.flatten.length := by
  induction x with
  | nil => simp
  | cons s x ih =>
    have h := lnL_len ah s
    simp only [List.flatMap_cons, List.flatten_append, List.length_append, List.length_cons, List.flatten_cons]
    have e : (x.length + 1) * (ah.length + 29) = x.length * (ah.length + 29) + (ah.length + 29) := Nat.succ_mul _ _
    omega
end Go.Proofs.YtncpkodfcifpkaaGreatDoor

/- How long the normal form of a script is; plain mathematics. -/
set_option maxRecDepth 20000
namespace Go.Proofs.YtncpkodfcifpkaaGreatDoor

theorem cmd_len {c : Ch} (h : numB c = true) : (cmdT c).length ≤ 100 := by
  rw [numB_iff] at h
  have r1 := rng_short c.A c.AN h.1.1 (by omega) h.2.1.1 (by omega)
  have r2 := rng_short c.B c.BN h.2.2.1.1 (by omega) h.2.2.2.1.1 (by omega)
  have r3 := itoa_short c.A (by omega) (by omega)
  have r4 := itoa_short c.B (by omega) (by omega)
  unfold cmdT
  split
  · simp only [List.length_append, List.length_cons]; omega
  · split
    · simp only [List.length_append, List.length_cons]; omega
    · simp only [List.length_append, List.length_cons]; omega
theorem flat_drop {a : List (List UInt8)} {p A AN : Int} (hp : 0 ≤ p) (hA : p ≤ A) (hN : 0 ≤ AN) : (cut a A AN).flatten.length + (a.drop (A + AN).toNat).flatten.length ≤ (a.drop p.toNat).flatten.length := by
  have e1 : a.drop p.toNat = (a.drop p.toNat).take (A - p).toNat ++ a.drop A.toNat := by
    have h := (List.take_append_drop (A - p).toNat (a.drop p.toNat)).symm
    rw [List.drop_drop] at h
    have e : p.toNat + (A - p).toNat = A.toNat := by omega
    rw [e] at h
    exact h
  have e2 : a.drop A.toNat = cut a A AN ++ a.drop (A + AN).toNat := by
    have h := (List.take_append_drop AN.toNat (a.drop A.toNat)).symm
    rw [List.drop_drop] at h
    have e : A.toNat + AN.toNat = (A + AN).toNat := by omega
    rw [e] at h
    exact h
  rw [e1, e2]
  simp only [List.flatten_append, List.length_append]
  omega
theorem cut_le (a : List (List UInt8)) (p n : Int) : (cut a p n).length ≤ n.toNat := by
  unfold cut
  rw [List.length_take]
  omega
theorem chg_len {a b : List (List UInt8)} {c : Ch} (h : numB c = true) : (chgL a b c).flatten.length ≤ 105 + 31 * (c.AN.toNat + c.BN.toNat) + (cut a c.A c.AN).flatten.length + (cut b c.B c.BN).flatten.length := by
  have h1 := cmd_len h
  have h2 := lns_len [60, 32] (cut a c.A c.AN)
  have h3 := lns_len [62, 32] (cut b c.B c.BN)
  have h4 := cut_le a c.A c.AN
  have h5 := cut_le b c.B c.BN
  have h6 : (sepL c).flatten.length ≤ 4 := by
    unfold sepL
    split <;> simp
  simp only [List.length_cons, List.length_nil] at h2 h3
  simp only [chgL, List.flatten_cons, List.flatten_append, List.length_append, List.length_cons, List.length_nil]
  omega
theorem prt_len_at {a b : List (List UInt8)} {n m : Int} (l : List Ch) : ∀ {f : Bool} {p q : Int}, 0 ≤ p → 0 ≤ q → Right f p q n m l → (prtT l a b).length ≤ 105 * l.length + 31 * ((n - p).toNat + (m - q).toNat) + (a.drop p.toNat).flatten.length + (b.drop q.toNat).flatten.length := by
  induction l with
  | nil =>
    intro f p q _ _ _
    simp [prtT, prtL]
  | cons c l ih =>
    intro f p q hp hq h
    obtain ⟨⟨h1, h2, h3, _⟩, h5⟩ := h
    have hn := (numB_iff c).1 h1
    have hle := h5.le
    have g := ih (by omega) (by omega) h5
    have g1 := @chg_len a b c h1
    have g2 := @flat_drop a p c.A c.AN hp h3 hn.2.1.1
    have g3 := @flat_drop b q c.B c.BN hq (by omega) hn.2.2.2.1.1
    have e : prtT (c :: l) a b = (chgL a b c).flatten ++ prtT l a b := by simp [prtT, prtL]
    rw [e, List.length_append, List.length_cons]
    omega
/-- what is written of a right script -/
theorem prt_len {a b : List (List UInt8)} {l : List Ch} (h : Script l a.length b.length) : (prtT l a b).length ≤ 105 * l.length + 31 * (a.length + b.length) + a.flatten.length + b.flatten.length := by
  have g := @prt_len_at a b a.length b.length l true 0 0 (by omega) (by omega) h.2.2
  simpa using g
end Go.Proofs.YtncpkodfcifpkaaGreatDoor

/- The library's contracts on a strings.Builder's WriteString and on strings.HasSuffix, TrimSuffix and CutPrefix at this program: the program bears the bodies that they speak of. -/
set_option maxRecDepth 20000
namespace Go.Proofs
open Go.Shelf Go.RowKit
def Tryz.lays166_ren : Go.Shelf.Ren := ⟨fun | 166 => 17 | 240 => 38 | 276 => 62 | n => n, fun | 0 => 0 | 3 => 3 | 4 => 4 | 5 => 5 | 9 => 9 | 20 => 20 | 37 => 63 | 70 => 62 | 72 => 65 | 75 => 36 | 80 => 73 | 164 => 108 | n => n, fun | n => n⟩
theorem Tryz.lays166 : Go.Proofs.Lays.n166 Tryz.prog Tryz.lays166_ren := {
  mixed := by kernel_rfl
  f166 := Tryz.func17.trans (congrArg some (by kernel_rfl))
  f240 := Tryz.func38.trans (congrArg some (by kernel_rfl))
  f276 := Tryz.func62.trans (congrArg some (by kernel_rfl))
  t0 := Tryz.underlying0
  a0 := Tryz.isAgg0
  z0 := Tryz.sizeOf0
  v0 := Tryz.zeroValue0
  t3 := Tryz.underlying3
  a3 := Tryz.isAgg3
  z3 := Tryz.sizeOf3
  v3 := Tryz.zeroValue3
  t4 := Tryz.underlying4
  a4 := Tryz.isAgg4
  z4 := Tryz.sizeOf4
  v4 := Tryz.zeroValue4
  t9 := Tryz.underlying9
  a9 := Tryz.isAgg9
  z9 := Tryz.sizeOf9
  v9 := Tryz.zeroValue9
  t20 := Tryz.underlying20
  a20 := Tryz.isAgg20
  z20 := Tryz.sizeOf20
  v20 := Tryz.zeroValue20
  t37 := Tryz.underlying63
  a37 := Tryz.isAgg63
  z37 := Tryz.sizeOf63
  v37 := Tryz.zeroValue63
  t70 := Tryz.underlying62
  a70 := Tryz.isAgg62
  z70 := Tryz.sizeOf62
  v70 := Tryz.zeroValue62
  t72 := Tryz.underlying65
  a72 := Tryz.isAgg65
  z72 := Tryz.sizeOf65
  v72 := Tryz.zeroValue65
  t75 := Tryz.underlying36
  a75 := Tryz.isAgg36
  z75 := Tryz.sizeOf36
  v75 := Tryz.zeroValue36
  t164 := Tryz.underlying108
  a164 := Tryz.isAgg108
  z164 := Tryz.sizeOf108
  v164 := Tryz.zeroValue108 }
theorem Tryz.Builder_Extra_166 : Builder.Extra Tryz.prog Tryz.lays166_ren := {
  sizeBuilder := by kernel_rfl
  liesBuilder := by kernel_rfl
  t5 := Tryz.underlying5
  a5 := Tryz.isAgg5
  z5 := Tryz.sizeOf5
  v5 := Tryz.zeroValue5
  infoByte := by kernel_rfl
  cellsByte := by kernel_rfl
  sizeByte := by kernel_rfl
  neB5 := by decide }
theorem Tryz.WriteString_h (B b : Nat) (bs : List Value) (s : ByteArray) (w : World) (h : Lib.IsBuilderF 65 5 B b bs w) (hlen : bs.length + s.size ≤ 140737488355328) (hBw : B ≤ w.heap.size) :
    Calls Tryz.prog 17 #[.pointer (some ⟨b, 0, none⟩), .string s] w fun e w' => e = .returned (.tuple #[.int .i64 s.size, .nilIface]) ∧ (Lib.BuilderAtF 65 5 B b (.pointer (some ⟨b, 0, none⟩)) (bs ++ Lib.strCells s) w' ∧ Below B w w' ∧ Lib.OthersKept 5 (some b) w w') :=
  Any.Builder_WriteString_k Tryz.lays166 Tryz.Builder_Extra_166 B b bs s w h hlen hBw
end Go.Proofs

/- The code's small functions of layer 12's Print, walked: numbers, ranges, letters, lines that are written. -/
set_option maxRecDepth 20000
namespace Go.Proofs.YtncpkodfcifpkaaGreatDoor
open Go.RowKit

/-- the table of powers of ten, in every later world -/
def Tab10 (w : World) : Prop := ∀ u : World, Below w.heap.size w u → Lib.TabIs Tryz.prog u "internal/strconv.uint64pow10" .u64 Lib.pow10Tab
theorem Tab10.on {w u : World} (h : Tab10 w) (hb : Below w.heap.size w u) : Tab10 u := fun v hv => h v (hb.trans (hv.mono hb.size))
set_option maxHeartbeats 1000000 in
theorem nText_f (n : Int) (h0 : -9223372036854775808 ≤ n) (h1 : n ≤ 9223372036854775807) (w : World) (HT : Hid (Tab10 w)) :
    Calls Tryz.prog 39 #[.int .i64 n] w fun e w' => e = .returned (.string ⟨(Lib.itoa n).toArray⟩) ∧ Below w.heap.size w w' := by
  go_enter Tryz.func39, Tryz.ntmps39
  go_wp2_with fail
  refine (Tryz.strconv_Itoa n h0 h1 _ (HT.out _ (Below.refl _ _))).mono ?_
  rintro e w1 ⟨rfl, k, os, rfl⟩
  go_wp2
  go_ret
  exact ⟨rfl, Lib.below_grow w.heap.size w (Nat.le_refl _) k os⟩
/-- a range as the code writes it -/
def rgx (A N : Int) : List UInt8 := if N ≤ 1 then Lib.itoa A else Lib.itoa A ++ 44 :: Lib.itoa (A + N - 1)
theorem rgx_len {A N : Int} (h0 : 0 ≤ A) (h1 : A ≤ 4611686018427387904) (h2 : 0 ≤ N) (h3 : N ≤ 4611686018427387900) : (rgx A N).length ≤ 43 := by
  have l1 := itoa_short A (by omega) (by omega)
  have l2 := itoa_short (A + N - 1) (by omega) (by omega)
  unfold rgx
  split
  · omega
  · simp only [List.length_append, List.length_cons]
    omega
set_option maxHeartbeats 1000000 in
theorem nrange_f (A N : Int) (h0 : 0 ≤ A) (h1 : A ≤ 4611686018427387904) (h2 : 0 ≤ N) (h3 : N ≤ 4611686018427387900) (w : World) (HT : Hid (Tab10 w)) (T : List UInt8) (HR : Hid (rgx A N = T)) :
    Calls Tryz.prog 18 #[.int .i64 A, .int .i64 N] w fun e w' => e = .returned (.string ⟨T.toArray⟩) ∧ Below w.heap.size w w' := by
  have l1 := itoa_short A (by omega) (by omega)
  have l2 := itoa_short (A + N - 1) (by omega) (by omega)
  by_cases hN : N ≤ 1
  · have HE1 : Hid (Lib.itoa A = T) := (by have h := HR.out; unfold rgx at h; rw [if_pos hN] at h; exact h)
    clear HR
    go_enter Tryz.func18, Tryz.ntmps18
    go_wp2_with fail
    refine (nText_f A (by omega) (by omega) _ HT).mono ?_
    rintro e w1 ⟨rfl, hb1⟩
    go_wp2
    go_ret
    exact ⟨by rw [← HE1.out]; rfl, hb1⟩
  · have HE : Hid (Lib.itoa A ++ 44 :: Lib.itoa (A + N - 1) = T) := (by have h := HR.out; unfold rgx at h; rw [if_neg hN] at h; exact h)
    clear HR
    have q1 := add_fits (x := Lib.itoa A) (y := [44]) (by unfold Fits; simp only [List.length_cons, List.length_nil]; omega) Tryz.prog
    have q2 := add_fits (x := Lib.itoa A ++ [44]) (y := Lib.itoa (A + N - 1)) (by unfold Fits; simp only [List.length_append, List.length_cons, List.length_nil]; omega) Tryz.prog
    go_enter Tryz.func18, Tryz.ntmps18
    go_wp2_with fail
    refine (nText_f A (by omega) (by omega) _ HT).mono ?_
    rintro e w1 ⟨rfl, hb1⟩
    have HT1 : Hid (Tab10 w1) := HT.out.on hb1
    go_wp2_with fail
    refine (nText_f (A + N - 1) (by omega) (by omega) _ HT1).mono ?_
    rintro e w2 ⟨rfl, hb2⟩
    go_wp2
    go_ret
    exact ⟨by rw [← HE.out]; rfl, hb1.trans (hb2.mono hb1.size)⟩
/-- what a hunk does, as the code writes it -/
def ltrT (AN BN : Int) : List UInt8 := if AN = 0 then [97] else if BN = 0 then [100] else [99]
theorem ltr_len (AN BN : Int) : (ltrT AN BN).length = 1 := by
  unfold ltrT
  split
  · rfl
  · split <;> rfl
set_option maxHeartbeats 1000000 in
theorem nletter_f (h : Hk) (v : Value) (w : World) (hv : HMk w v h.ls) (T : List UInt8) (HR : Hid (ltrT h.AN h.BN = T)) :
    Calls Tryz.prog 19 #[hkV h v] w fun e w' => e = .returned (.string ⟨T.toArray⟩) ∧ Below w.heap.size w w' := by
  have hBl : Below w.heap.size w (w.alloc (hkO h v)) := (Below.refl _ w).alloc (Nat.le_refl _) _
  obtain ⟨c0, c1, c2, c3, c4⟩ := (Hx.new w h v).cells
  unfold hkO at c0 c1 c2 c3 c4 hBl
  obtain ⟨lo, lc, rfl⟩ := HMk.form hv
  have e : hkV h (.slice lo h.ls.length lc) = .agg #[.int .i64 h.A, .int .i64 h.AN, .int .i64 h.B, .int .i64 h.BN, .slice lo h.ls.length lc] := rfl
  rw [e]
  clear e
  by_cases h1 : h.AN = 0
  · have e1 : (h.AN == 0) = true := by rw [h1]; rfl
    have hE : [97] = T := (by have q := HR.out; unfold ltrT at q; rw [if_pos h1] at q; exact q)
    subst hE
    clear HR h1
    go_enter Tryz.func19, Tryz.ntmps19
    go_wp2
    go_ret
    exact ⟨rfl, hBl⟩
  · have e1 : (h.AN == 0) = false := beq_eq_false_iff_ne.2 h1
    by_cases h2 : h.BN = 0
    · have e2 : (h.BN == 0) = true := by rw [h2]; rfl
      have hE : [100] = T := (by have q := HR.out; unfold ltrT at q; rw [if_neg h1, if_pos h2] at q; exact q)
      subst hE
      clear HR h1 h2
      go_enter Tryz.func19, Tryz.ntmps19
      go_wp2
      go_ret
      exact ⟨rfl, hBl⟩
    · have e2 : (h.BN == 0) = false := beq_eq_false_iff_ne.2 h2
      have hE : [99] = T := (by have q := HR.out; unfold ltrT at q; rw [if_neg h1, if_neg h2] at q; exact q)
      subst hE
      clear HR h1 h2
      go_enter Tryz.func19, Tryz.ntmps19
      go_wp2
      go_ret
      exact ⟨rfl, hBl⟩
set_option maxHeartbeats 1000000 in
theorem ndivided_f (h : Hk) (v : Value) (w : World) (hv : ∃ lo n lc, v = .slice lo n lc) (r : Bool) (HR : Hid ((decide (0 < h.AN) && decide (0 < h.BN)) = r)) :
    Calls Tryz.prog 22 #[hkV h v] w fun e w' => e = .returned (.bool r) ∧ Below w.heap.size w w' := by
  have hBl : Below w.heap.size w (w.alloc (hkO h v)) := (Below.refl _ w).alloc (Nat.le_refl _) _
  obtain ⟨c0, c1, c2, c3, c4⟩ := (Hx.new w h v).cells
  unfold hkO at c0 c1 c2 c3 c4 hBl
  obtain ⟨lo, n, lc, rfl⟩ := hv
  have e : hkV h (.slice lo n lc) = .agg #[.int .i64 h.A, .int .i64 h.AN, .int .i64 h.B, .int .i64 h.BN, .slice lo n lc] := rfl
  rw [e]
  clear e
  by_cases h1 : 0 < h.AN
  · have hE : decide (0 < h.BN) = r := (by rw [← HR.out]; simp [h1])
    subst hE
    clear HR
    go_enter Tryz.func22, Tryz.ntmps22
    go_wp2
    go_ret
    exact ⟨rfl, hBl⟩
  · have hE : false = r := (by rw [← HR.out]; simp [h1])
    subst hE
    clear HR
    go_enter Tryz.func22, Tryz.ntmps22
    go_wp2
    go_ret
    exact ⟨rfl, hBl⟩
end Go.Proofs.YtncpkodfcifpkaaGreatDoor

/- The code's writeLines of layer 12, walked: lines behind a sign are written into a builder. -/
set_option maxRecDepth 20000
namespace Go.Proofs.YtncpkodfcifpkaaGreatDoor
open Go.RowKit

theorem bcells_len (l : List UInt8) : (Lib.byteCells l).length = l.length := by simp [Lib.byteCells]
theorem suf_feed (s : List UInt8) : Lib.hasSuffix s [10] = fdB s := by
  unfold Lib.hasSuffix fdB
  rw [Bool.eq_iff_iff, List.isSuffixOf_iff_suffix, beq_iff_eq]
  constructor
  · rintro ⟨t, rfl⟩
    simp
  · intro h
    obtain ⟨t, rfl⟩ := List.getLast?_eq_some_iff.1 h
    exact ⟨t, rfl⟩
/-- a builder stays as it is where all ahead stays -/
theorem isF_low {T e : TypeId} {B b : Nat} {bs : List Value} {w w' : World} (h : Lib.IsBuilderF T e B b bs w) (hb : Below w.heap.size w w') : Lib.IsBuilderF T e B b bs w' := by
  have key : ∀ p, Lib.BuilderAtF T e B b p bs w → Lib.BuilderAtF T e B b p bs w' := by
    rintro p ⟨h1, v, h2, h3, h4⟩
    refine ⟨h1, v, (hb.block b (Array.getElem?_eq_some_iff.1 h2).1).trans h2, ⟨h3.1, ?_⟩, h4⟩
    rcases h3.2 with q | ⟨g, cap, cur, fz, q1, q2, q3, q4⟩
    · exact .inl q
    · exact .inr ⟨g, cap, cur, fz, q1, q2, (hb.block g (Array.getElem?_eq_some_iff.1 q3).1).trans q3, q4⟩
  rcases h with h | h
  · exact .inl (key _ h)
  · exact .inr (key _ h)
theorem isF_fresh (w : World) : Lib.IsBuilderF 65 5 w.heap.size w.heap.size (Lib.byteCells []) (w.alloc (.cells #[.pointer none, .slice none 0 0] 65)) :=
  .inl ⟨Nat.le_refl _, .slice none 0 0, heap_alloc_new w _, ⟨rfl, .inl ⟨rfl, rfl⟩⟩, by simp [Value.ownBlock]⟩
/-- a row of texts of one's own stays where a builder is written -/
theorem owns_others {w u : World} {base b : Nat} {v : Value} {n : Nat} {xs : List Value} (h : w.ownsRow base 9 1 v n xs) (hk : Lib.OthersKept 5 (some b) w u) (hb : ∀ g, v.ownBlock = some g → g ≠ b) : u.ownsRow base 9 1 v n xs := by
  refine ⟨h.1, ?_⟩
  rcases h.2 with q | ⟨g, cap, cur, rfl, q2, q3, q4⟩
  · exact .inl q
  · refine .inr ⟨g, cap, cur, rfl, q2, hk g _ q3 (fun e => hb g rfl (Option.some.inj e)) (fun c fz e => ?_), q4⟩
    cases e
theorem hx_others {w u : World} {b B : Nat} {h : Hk} {v : Value} (q : Hx w B h v) (hk : Lib.OthersKept 5 (some b) w u) (hb : B ≠ b) : Hx u B h v :=
  hk B _ q (fun e => hb (Option.some.inj e)) (fun c fz e => by cases e)
set_option maxHeartbeats 2000000 in
theorem nlines_f (B b : Nat) (acc ah : List UInt8) (x : List (List UInt8)) (v : Value) (w : World) (hB : Lib.IsBuilderF 65 5 B b (Lib.byteCells acc) w) (hBw : B ≤ w.heap.size)
    (hv : ∃ vo vc, v = .slice vo x.length vc) (HV : Hid (∀ u, Lib.OthersKept 5 (some b) w u → HS u v x)) (hxl : x.length ≤ 1099511627776) (HTX : Hid (∀ s ∈ x, s.length ≤ 1099511627776)) (hal : ah.length ≤ 10) (Z : List UInt8) (HZ : Hid (acc ++ (x.flatMap (lnL ah)).flatten = Z)) (hZ : Z.length ≤ 70368744177664) :
    Calls Tryz.prog 20 #[.pointer (some ⟨b, 0, none⟩), .string ⟨ah.toArray⟩, v] w fun e w' => e = .returned (.tuple #[]) ∧ Lib.IsBuilderF 65 5 B b (Lib.byteCells Z) w' ∧ Below B w w' ∧ Lib.OthersKept 5 (some b) w w' := by
  obtain ⟨vo, vc, rfl⟩ := hv
  go_enter Tryz.func20, Tryz.ntmps20
  go_wp2
  go_loopw [10] (fun i wr => ∃ (k : Nat) (ac : List UInt8), k ≤ x.length ∧ i = .int .i64 (k : Int) ∧ Lib.IsBuilderF 65 5 B b (Lib.byteCells ac) wr ∧ Below B w wr ∧ Lib.OthersKept 5 (some b) w wr ∧ Hid (ac ++ ((x.drop k).flatMap (lnL ah)).flatten = Z)) (fun i _ => x.length - (intOf i).toNat)
  case atStart => exact ⟨0, acc, Nat.zero_le _, by go_num, hB, Below.refl _ _, Lib.OthersKept.refl _ _ _, HZ⟩
  case round =>
    obtain ⟨k, ac, hk, rfl, hBr, hbr, hor, HI⟩ := hrel
    have hbz : B ≤ wr.heap.size := Nat.le_trans hBw hbr.size
    have hacl : ac.length ≤ 70368744177664 := (by
      have h1 := congrArg List.length HI.out
      rw [List.length_append] at h1
      omega)
    by_cases hlt : k < x.length
    · obtain ⟨bk, off, rfl, hbk, hcl⟩ := HS.at (HV.out wr hor) (by omega)
      have c0 := hcl k hlt
      have hsl := HTX.out x[k] (List.getElem_mem _)
      have HE : Hid (ac ++ (lnL ah x[k]).flatten ++ ((x.drop (k + 1)).flatMap (lnL ah)).flatten = Z) := (by
        show _ = _
        rw [← HI.out, List.drop_eq_getElem_cons hlt, List.flatMap_cons, List.flatten_append, List.append_assoc])
      obtain ⟨s, hs⟩ : ∃ s, x[k] = s := ⟨_, rfl⟩
      rw [hs] at c0 hsl HE
      clear hcl hs HI HV HTX HZ
      have i1 : 0 ≤ (k : Int) := by omega
      have i2 : (k : Int) < (x.length : Int) := by omega
      have q1 := add_fits (x := ah) (y := s) (by unfold Fits; omega) Tryz.prog
      have hZl : ac.length + (lnL ah s).flatten.length ≤ 70368744177664 := (by
        have h1 := congrArg List.length HE.out
        simp only [List.length_append] at h1
        omega)
      go_wp2_with fail
      refine (Tryz.WriteString_h B b _ _ wr hBr (by rw [bcells_len]; show ac.length + (ah ++ s).length ≤ _; rw [List.length_append]; omega) hbz).mono ?_
      rintro e w1 ⟨rfl, hB1, hb1, ho1⟩
      have hB2 : Lib.IsBuilderF 65 5 B b (Lib.byteCells (ac ++ (ah ++ s))) w1 := .inr (by rw [Lib.byteCells_append]; exact hB1)
      have hb2 := hbr.trans hb1
      have ho2 := hor.trans ho1
      clear hB1 hb1 ho1 hBr hbr hor q1 c0
      go_wp2_with fail
      refine (Tryz.strings_HasSuffix ⟨s.toArray⟩ ⟨#[10]⟩ w1 (by show s.length ≤ _; omega)).mono ?_
      rintro e w2 ⟨rfl, rfl⟩
      have e1 : Lib.hasSuffix (⟨s.toArray⟩ : ByteArray).data.toList (⟨#[10]⟩ : ByteArray).data.toList = fdB s := suf_feed s
      rw [e1]
      clear e1
      cases hf : fdB s with
      | true =>
        have HE2 : Hid (ac ++ (ah ++ s) ++ ((x.drop (k + 1)).flatMap (lnL ah)).flatten = Z) := (by
          show _ = _
          rw [← HE.out]
          simp [lnL, hf])
        clear HE
        go_wp2
        exact ⟨⟨k + 1, _, by omega, by go_num, hB2, hb2, ho2, HE2⟩, by simp [intOf]; omega⟩
      | false =>
        have HE2 : Hid (ac ++ (ah ++ s) ++ (10 :: markT) ++ ((x.drop (k + 1)).flatMap (lnL ah)).flatten = Z) := (by
          show _ = _
          rw [← HE.out]
          simp [lnL, hf])
        have hbz2 : B ≤ w2.heap.size := Nat.le_trans hBw hb2.size
        clear HE
        go_wp2_with fail
        refine (Tryz.WriteString_h B b _ _ w2 hB2 (by rw [bcells_len]; show (ac ++ (ah ++ s)).length + 29 ≤ _; simp only [List.length_append]; omega) hbz2).mono ?_
        rintro e w3 ⟨rfl, hB3, hb3, ho3⟩
        have hB4 : Lib.IsBuilderF 65 5 B b (Lib.byteCells (ac ++ (ah ++ s) ++ (10 :: markT))) w3 := .inr (by rw [Lib.byteCells_append]; exact hB3)
        clear hB3 hB2
        go_wp2
        exact ⟨⟨k + 1, _, by omega, by go_num, hB4, hb2.trans hb3, ho2.trans ho3, HE2⟩, by simp [intOf]; omega⟩
    · have HE : Hid (ac = Z) := (by
        have h := HI.out
        rw [List.drop_of_length_le (by omega)] at h
        show ac = Z
        simpa using h)
      have hend : decide ((k : Int) < (x.length : Int)) = false := decide_eq_false (by omega)
      clear HI
      go_wp2
      first
        | go_end0
        | refine bodyPost_ret (results_none rfl _ _ _) rfl ?_
        | refine bodyPost_end (results_none rfl _ _ _) rfl ?_
      exact ⟨rfl, by rw [← HE.out]; exact hBr, hbr, hor⟩
end Go.Proofs.YtncpkodfcifpkaaGreatDoor

/- The code's Print of the normal form, walked. -/
set_option maxRecDepth 20000
namespace Go.Proofs.YtncpkodfcifpkaaGreatDoor
open Go.RowKit

theorem exec_addS {u : World} {x y : List UInt8} (h : Fits x y) {op : Oper} (p q : Operand) (ho : op.op = .binOp .add 9 p q 9) {ev : Operand → Value} (hx : ev p = .string ⟨x.toArray⟩) (hy : ev q = .string ⟨y.toArray⟩) :
    (execOp ev op).run Tryz.prog u = .ok (.value (.string ⟨(x ++ y).toArray⟩)) u := by
  have h1 := add_fits h Tryz.prog u
  simp only [execOp, ho, hx, hy]
  go_simp
theorem others_low {e : TypeId} {b : Option Nat} {w u : World} (h : Below w.heap.size w u) : Lib.OthersKept e b w u := fun k _ hk _ _ => (h.block k (Array.getElem?_eq_some_iff.1 hk).1).trans hk
theorem rgx_rng {p n : Int} (h : 1 ≤ n) : rgx (p + 1) n = rngT p n := by
  unfold rgx rngT
  by_cases h1 : n = 1
  · rw [if_pos (by omega), if_pos h1]
  · rw [if_neg (by omega), if_neg h1]
    have e : p + 1 + n - 1 = p + n := by omega
    rw [e]
theorem cmd_code {c : Ch} (hn : numB c = true) : rgx (noA c.A c.AN) c.AN ++ ltrT c.AN c.BN ++ rgx (noA c.B c.BN) c.BN = cmdT c := by
  have h := (numB_iff c).1 hn
  unfold ltrT cmdT noA
  by_cases h1 : c.AN = 0
  · have e1 : rgx c.A c.AN = Lib.itoa c.A := by unfold rgx; rw [if_pos (by omega)]
    rw [if_pos h1, if_pos h1, if_neg (by omega), if_pos (by omega), rgx_rng (by omega), e1]
    simp
  · rw [if_neg h1, if_neg h1, if_pos (by omega), rgx_rng (by omega)]
    by_cases h2 : c.BN = 0
    · have e1 : rgx c.B c.BN = Lib.itoa c.B := by unfold rgx; rw [if_pos (by omega)]
      rw [if_pos h2, if_pos h2, if_neg (by omega), e1]
      simp
    · rw [if_neg h2, if_neg h2, if_pos (by omega), rgx_rng (by omega)]
      simp
theorem zero_old (X Y : List (List UInt8)) : pkL 43 (mks 45 X ++ mks 43 Y) = X := by
  rw [pkL_append, npk_mks, npk_mks, if_pos (by decide), if_neg (by decide)]
  simp
theorem zero_new (X Y : List (List UInt8)) : pkL 45 (mks 45 X ++ mks 43 Y) = Y := by
  rw [pkL_append, npk_mks, npk_mks, if_neg (by decide), if_pos (by decide)]
  simp
theorem grpE_zero (l : List Ch) (n m : Int) : grpE l n m 0 = chk l n m := by
  unfold grpE
  split
  · rfl
  · rename_i h
    rw [if_neg (by omega)]
    omega
theorem chg_flat (a b : List (List UInt8)) (c : Ch) : (chgL a b c).flatten = cmdT c ++ [10] ++ ((cut a c.A c.AN).flatMap (lnL [60, 32])).flatten ++ (sepL c).flatten ++ ((cut b c.B c.BN).flatMap (lnL [62, 32])).flatten := by
  unfold chgL
  simp only [List.flatten_cons, List.flatten_append, List.append_assoc]
theorem ws_held {b : Nat} {acc s : List UInt8} {W w1 u : World} (hB : Lib.IsBuilderF 65 5 b b (Lib.byteCells acc) u) (hl : acc.length + s.length ≤ 140737488355328) (hz : b ≤ u.heap.size) (hS : Lib.OthersKept 5 (some b) W u ∧ Below b w1 u) :
    Calls Tryz.prog 17 (#[.pointer (some ⟨b, 0, none⟩), .string ⟨s.toArray⟩] ++ #[]) u fun e w' => ∃ v, e = .returned v ∧ (Lib.OthersKept 5 (some b) W w' ∧ Below b w1 w') ∧ (Lib.IsBuilderF 65 5 b b (Lib.byteCells (acc ++ s)) w' ∧ ∃ z, v = .tuple #[z, .nilIface]) := by
  refine (Tryz.WriteString_h b b _ ⟨s.toArray⟩ u hB (by rw [bcells_len]; exact hl) hz).mono ?_
  rintro e w' ⟨rfl, h1, h2, h3⟩
  exact ⟨_, rfl, ⟨hS.1.trans h3, hS.2.trans h2⟩, .inr (by rw [Lib.byteCells_append]; exact h1), _, rfl⟩
set_option maxHeartbeats 16000000 in
set_option maxRecDepth 10000 in
theorem nPrint_f (l : List Ch) (vl va vb : Value) (a b : List (List UInt8)) (w : World) (hl : HCh w vl l) (ha : HS w va a) (hb : HS w vb b) (hll : l.length ≤ 1099511627776) (hla : a.length ≤ 137438953472) (hlb : b.length ≤ 137438953472) (hta : ∀ s ∈ a, s.length ≤ 1099511627776) (htb : ∀ s ∈ b, s.length ≤ 1099511627776) (HTb : Hid (Tab10 w))
    (r : Int) (HR : Hid (chk l a.length b.length = r)) (T : List UInt8) (HT : Hid ((if r = 0 then prtT l a b else []) = T)) (hT : T.length ≤ 70368744177664) :
    Calls Tryz.prog 8 #[vl, va, vb] w fun e w' => e = .returned (.tuple #[.string ⟨T.toArray⟩, .int .i64 r]) ∧ Below w.heap.size w w' := by
  obtain ⟨lo, lc, rfl⟩ := Holds.form hl
  obtain ⟨ao, ca, rfl⟩ := Holds.form ha
  obtain ⟨bo, cb, rfl⟩ := Holds.form hb
  have HZ0 : Hid (grpE l a.length b.length 0 = r) := (by show _ = _; rw [grpE_zero]; exact HR.out)
  obtain ⟨M, hM⟩ : ∃ M, mkR l a b 0 = M := ⟨_, rfl⟩
  have HM : Hid (mkR l a b 0 = M) := hM
  have HTA : Hid (∀ s ∈ a, s.length ≤ 1099511627776) := hta
  have HTB : Hid (∀ s ∈ b, s.length ≤ 1099511627776) := htb
  clear hM hta htb
  go_enter Tryz.func8, Tryz.ntmps8
  go_wp2_with fail
  refine (hMake_f l a b 0 _ _ _ w hl ha hb (by omega) (by omega) (by omega) r HZ0 M HM).mono ?_
  rintro e w1 ⟨v1, P, rfl, hHs, hPM⟩
  have HPM : Hid (P.map (·.1) = M) := hPM
  clear hPM hl ha hb
  have hlow := hHs.low
  have hH := hHs.holds
  obtain ⟨po, pc, rfl⟩ := hH.1.form
  clear hHs
  by_cases hr : r = 0
  · subst hr
    have hTT := HT.out
    rw [if_pos rfl] at hTT
    have hs : Script l a.length b.length := (by
      by_cases h : Script l a.length b.length
      · exact h
      · have := chk_no h
        rw [HR.out] at this
        cases this)
    have hMP : P.map (·.1) = l.map fun c => oneH a b 0 [c] := (by rw [HPM.out, ← HM.out]; exact mk_zero hs)
    have HMP : Hid (P.map (·.1) = l.map fun c => oneH a b 0 [c]) := hMP
    have HPl : Hid (P.length = l.length) := (by show P.length = l.length; have := congrArg List.length hMP; simpa using this)
    have HMH : Hid (∀ c ∈ l, numB c = true ∧ c.A + c.AN ≤ (a.length : Int) ∧ c.B + c.BN ≤ (b.length : Int)) := right_mem hs.2.2
    have HT1 : Hid (Tab10 w1) := HTb.out.on hlow
    have HTT : Hid (prtT l a b = T) := hTT
    clear hs hMP HT HR HZ0 HPM HM hTT HTb
    have HTb := HT1
    clear HT1
    have hF0 := isF_fresh w1
    have hBw : Below w1.heap.size w1 (w1.alloc (.cells #[.pointer none, .slice none 0 0] 65)) := (Below.refl _ w1).alloc (Nat.le_refl _) _
    have HPl2 := HPl.out
    have hPl : P.length ≤ 1099511627776 := by omega
    clear HPl2
    go_wp2
    go_loopw [25] (fun i wr => ∃ (k : Nat) (acc : List UInt8), k ≤ P.length ∧ i = .int .i64 (k : Int) ∧ Lib.IsBuilderF 65 5 w1.heap.size w1.heap.size (Lib.byteCells acc) wr ∧ Below w1.heap.size w1 wr ∧ Hid (acc ++ prtT (l.drop k) a b = T)) (fun i _ => P.length - (intOf i).toNat)
    case atStart => exact ⟨0, [], Nat.zero_le _, by go_num, hF0, hBw, HTT⟩
    case round =>
    clear hF0 hBw HTT
    obtain ⟨k, acc, hk, rfl, hBr, hbr, HI⟩ := hrel
    by_cases hlt : k < P.length
    · have hkl : k < l.length := (by have := HPl.out; omega)
      obtain ⟨⟨x, y⟩, hxy⟩ : ∃ q, P[k] = q := ⟨_, rfl⟩
      obtain ⟨c, hc⟩ : ∃ c, l[k] = c := ⟨_, rfl⟩
      have hx : x = oneH a b 0 [c] := (by
        have h1 : (P.map (·.1))[k]? = (l.map fun c => oneH a b 0 [c])[k]? := by rw [HMP.out]
        rw [List.getElem?_map, List.getElem?_map, List.getElem?_eq_getElem hlt, List.getElem?_eq_getElem hkl, hxy, hc] at h1
        simpa using h1)
      have hm := HMH.out l[k] (List.getElem_mem hkl)
      rw [hc] at hm
      rw [one_zero hm.1 hm.2.1 hm.2.2] at hx
      have hn := (numB_iff c).1 hm.1
      obtain ⟨bk, off, rfl, hbk, _⟩ := HHp.at hH (by omega)
      obtain ⟨⟨c0, c1, c2, c3, c4⟩, hml2⟩ := HHp.take hH hbr k hlt hxy
      have hml : HMk w1 y x.ls := (by
        have h := hH.2 P[k] (List.getElem_mem hlt)
        rw [hxy] at h
        exact h)
      obtain ⟨yo, yc, rfl⟩ := HMk.form hml
      obtain ⟨RA, hRA⟩ : ∃ R, cut a c.A c.AN = R := ⟨_, rfl⟩
      obtain ⟨RB, hRB⟩ : ∃ R, cut b c.B c.BN = R := ⟨_, rfl⟩
      have HOl : Hid (oldL x = RA) := (by show _ = _; rw [hx, ← hRA]; exact zero_old _ _)
      have HNw : Hid (newL x = RB) := (by show _ = _; rw [hx, ← hRB]; exact zero_new _ _)
      have hA0 : 0 ≤ x.A ∧ x.A ≤ 2147483648 ∧ 0 ≤ x.AN ∧ x.AN ≤ 2147483648 ∧ 0 ≤ x.B ∧ x.B ≤ 2147483648 ∧ 0 ≤ x.BN ∧ x.BN ≤ 2147483648 := (by
        rw [hx]
        unfold noA
        dsimp only
        refine ⟨?_, ?_, by omega, by omega, ?_, ?_, by omega, by omega⟩ <;> split <;> omega)
      have hRAl : RA.length ≤ a.length := (by rw [← hRA]; unfold cut; simp only [List.length_take, List.length_drop]; omega)
      have hRBl : RB.length ≤ b.length := (by rw [← hRB]; unfold cut; simp only [List.length_take, List.length_drop]; omega)
      have hxl : x.ls.length ≤ 1099511627776 := (by rw [hx]; dsimp only; rw [List.length_append]; unfold mks; rw [List.length_map, List.length_map, hRA, hRB]; omega)
      have HRAt : Hid (∀ s ∈ RA, s.length ≤ 1099511627776) := (by intro s hs; rw [← hRA] at hs; exact HTA.out s (mem_cut hs))
      have HRBt : Hid (∀ s ∈ RB, s.length ≤ 1099511627776) := (by intro s hs; rw [← hRB] at hs; exact HTB.out s (mem_cut hs))
      obtain ⟨T1, HT1⟩ : ∃ T1, Hid (rgx x.A x.AN = T1) := ⟨_, rfl⟩
      obtain ⟨T2, HT2⟩ : ∃ T1, Hid (ltrT x.AN x.BN = T1) := ⟨_, rfl⟩
      obtain ⟨T3, HT3⟩ : ∃ T1, Hid (rgx x.B x.BN = T1) := ⟨_, rfl⟩
      have l1 : T1.length ≤ 43 := (by rw [← HT1.out]; exact rgx_len (by omega) (by omega) (by omega) (by omega))
      have l2 : T2.length = 1 := (by rw [← HT2.out]; exact ltr_len _ _)
      have l3 : T3.length ≤ 43 := (by rw [← HT3.out]; exact rgx_len (by omega) (by omega) (by omega) (by omega))
      have hF1 : Fits T1 T2 := by unfold Fits; omega
      have hF2 : Fits (T1 ++ T2) T3 := by unfold Fits; rw [List.length_append]; omega
      have hF3 : Fits (T1 ++ T2 ++ T3) [10] := by unfold Fits; simp only [List.length_append, List.length_cons, List.length_nil]; omega
      have hlC : (T1 ++ T2 ++ T3 ++ [10]).length ≤ 100 := by simp only [List.length_append, List.length_cons, List.length_nil]; omega
      obtain ⟨dv, HDV⟩ : ∃ dv, Hid ((decide (0 < x.AN) && decide (0 < x.BN)) = dv) := ⟨_, rfl⟩
      obtain ⟨ac2, hA2⟩ : ∃ z, acc ++ (T1 ++ T2 ++ T3 ++ [10]) ++ (RA.flatMap (lnL [60, 32])).flatten = z := ⟨_, rfl⟩
      have HA2 : Hid (acc ++ (T1 ++ T2 ++ T3 ++ [10]) ++ (RA.flatMap (lnL [60, 32])).flatten = ac2) := hA2
      clear hA2
      obtain ⟨ac4, hA4⟩ : ∃ z, ac2 ++ (if dv = true then [45, 45, 45, 10] else []) ++ (RB.flatMap (lnL [62, 32])).flatten = z := ⟨_, rfl⟩
      have HA4 : Hid (ac2 ++ (if dv = true then [45, 45, 45, 10] else []) ++ (RB.flatMap (lnL [62, 32])).flatten = ac4) := hA4
      clear hA4
      have HEnd : Hid (ac4 ++ prtT (l.drop (k + 1)) a b = T) := (by
        show _ = _
        have e1 : prtT (l.drop k) a b = (chgL a b c).flatten ++ prtT (l.drop (k + 1)) a b := (by
          rw [List.drop_eq_getElem_cons hkl, hc]
          unfold prtT prtL
          rw [List.flatMap_cons, List.flatten_append])
        have e2 : (sepL c).flatten = (if dv = true then [45, 45, 45, 10] else []) := (by
          rw [← HDV.out, hx]
          unfold sepL
          dsimp only
          by_cases hb1 : 0 < c.AN
          · by_cases hb2 : 0 < c.BN
            · rw [if_pos ⟨hb1, hb2⟩, if_pos (by simp [hb1, hb2])]
              rfl
            · rw [if_neg (fun h => hb2 h.2), if_neg (by simp [hb2])]
              rfl
          · rw [if_neg (fun h => hb1 h.1), if_neg (by simp [hb1])]
            rfl)
        have e3 : T1 ++ T2 ++ T3 = cmdT c := (by
          rw [← HT1.out, ← HT2.out, ← HT3.out, hx]
          exact cmd_code hm.1)
        rw [← HI.out, e1, chg_flat, ← HA4.out, ← HA2.out, e2, e3, hRA, hRB]
        simp only [List.append_assoc])
      have hal4 : ac4.length ≤ 70368744177664 := (by
        have h := congrArg List.length HEnd.out
        rw [List.length_append] at h
        omega)
      have hal2 : ac2.length + (if dv = true then [45, 45, 45, 10] else ([] : List UInt8)).length ≤ 70368744177664 := (by
        have h := congrArg List.length HA4.out
        rw [List.length_append, List.length_append] at h
        omega)
      have hal0 : acc.length ≤ 70368744177664 := (by
        have h := congrArg List.length HA2.out
        rw [List.length_append, List.length_append] at h
        omega)
      have i1 : 0 ≤ (k : Int) := by omega
      have i2 : (k : Int) < (P.length : Int) := by omega
      have hx2 := Hx.new wr x (.slice yo x.ls.length yc)
      have hb2 : Below w1.heap.size w1 (wr.alloc (hkO x (.slice yo x.ls.length yc))) := hbr.alloc hbr.size _
      have hB2 := isF_low hBr ((Below.refl _ wr).alloc (Nat.le_refl _) (hkO x (.slice yo x.ls.length yc)))
      have hHb : w1.heap.size < wr.heap.size := (by
        rcases hBr with ⟨_, _, h, _⟩ | ⟨_, _, h, _⟩ <;> exact (Array.getElem?_eq_some_iff.1 h).1)
      have hW : wr.alloc (Obj.cells #[.int .i64 x.A, .int .i64 x.AN, .int .i64 x.B, .int .i64 x.BN, .slice yo x.ls.length yc] 52) = wr.alloc (hkO x (.slice yo x.ls.length yc)) := rfl
      clear hx hxy hc hm hn hRA hRB HI hml2 HMP HMH HTA HTB hkl HPl
      go_upto_region 8 with fail
      generalize wr.alloc (hkO x (.slice yo x.ls.length yc)) = W2 at *
      clear hW c0 c1 c2 c3 c4 hBr
      have hS2 : Lib.OthersKept 5 (some w1.heap.size) W2 W2.drew ∧ Below w1.heap.size w1 W2.drew := ⟨Lib.OthersKept.refl _ _ _, hb2.drew⟩
      have hxu : ∀ u, Lib.OthersKept 5 (some w1.heap.size) W2 u → Hx u wr.heap.size x (.slice yo x.ls.length yc) := fun u hu => hx_others hx2 hu (by omega)
      have hBd : Lib.IsBuilderF 65 5 w1.heap.size w1.heap.size (Lib.byteCells acc) W2.drew := hB2
      refine wp_region_noPanic ?_
      refine wp_region_held_drew (S := fun u => Lib.OthersKept 5 (some w1.heap.size) W2 u ∧ Below w1.heap.size w1 u) (by kernel_rfl) hS2 (fun hHeld => ?_)
      clear hS2
      generalize W2.drew = wd at hHeld hBd ⊢
      refine go_take 0 29 _ (.pointer (some ⟨wr.heap.size, 0, none⟩)) rfl (by kernel_rfl) (by kernel_rfl) (by kernel_rfl) (by kernel_rfl) (fun _ _ _ h => h) (Or.inl ⟨by kernel_rfl, fun u hu => by kernel_rfl⟩) hHeld ?_
      simp only [Act.put, List.setIfInBounds_toArray, List.set_cons_zero, List.set_cons_succ]
      refine go_take 1 30 _ (.int .i64 x.A) rfl (by kernel_rfl) (by kernel_rfl) (by kernel_rfl) (by kernel_rfl) (fun _ _ _ h => h) (Or.inl ⟨by kernel_rfl, fun u hu => load_int (hxu u hu.1).cells.1 (.tmp 29) (by kernel_rfl) (by kernel_rfl)⟩) hHeld ?_
      simp only [Act.put, List.setIfInBounds_toArray, List.set_cons_zero, List.set_cons_succ]
      refine go_take 2 31 _ (.pointer (some ⟨wr.heap.size, 1, none⟩)) rfl (by kernel_rfl) (by kernel_rfl) (by kernel_rfl) (by kernel_rfl) (fun _ _ _ h => h) (Or.inl ⟨by kernel_rfl, fun u hu => by kernel_rfl⟩) hHeld ?_
      simp only [Act.put, List.setIfInBounds_toArray, List.set_cons_zero, List.set_cons_succ]
      refine go_take 3 32 _ (.int .i64 x.AN) rfl (by kernel_rfl) (by kernel_rfl) (by kernel_rfl) (by kernel_rfl) (fun _ _ _ h => h) (Or.inl ⟨by kernel_rfl, fun u hu => load_int (hxu u hu.1).cells.2.1 (.tmp 31) (by kernel_rfl) (by kernel_rfl)⟩) hHeld ?_
      simp only [Act.put, List.setIfInBounds_toArray, List.set_cons_zero, List.set_cons_succ]
      refine go_take 5 34 _ (hkV x (.slice yo x.ls.length yc)) rfl (by kernel_rfl) (by kernel_rfl) (by kernel_rfl) (by kernel_rfl) (fun _ _ _ h => h) (Or.inl ⟨by kernel_rfl, fun u hu => load_hk (hxu u hu.1) (.tmp 12) (by kernel_rfl) (by kernel_rfl)⟩) hHeld ?_
      simp only [Act.put, List.setIfInBounds_toArray, List.set_cons_zero, List.set_cons_succ]
      refine go_take 8 37 _ (.pointer (some ⟨wr.heap.size, 2, none⟩)) rfl (by kernel_rfl) (by kernel_rfl) (by kernel_rfl) (by kernel_rfl) (fun _ _ _ h => h) (Or.inl ⟨by kernel_rfl, fun u hu => by kernel_rfl⟩) hHeld ?_
      simp only [Act.put, List.setIfInBounds_toArray, List.set_cons_zero, List.set_cons_succ]
      refine go_take 9 38 _ (.int .i64 x.B) rfl (by kernel_rfl) (by kernel_rfl) (by kernel_rfl) (by kernel_rfl) (fun _ _ _ h => h) (Or.inl ⟨by kernel_rfl, fun u hu => load_int (hxu u hu.1).cells.2.2.1 (.tmp 37) (by kernel_rfl) (by kernel_rfl)⟩) hHeld ?_
      simp only [Act.put, List.setIfInBounds_toArray, List.set_cons_zero, List.set_cons_succ]
      refine go_take 10 39 _ (.pointer (some ⟨wr.heap.size, 3, none⟩)) rfl (by kernel_rfl) (by kernel_rfl) (by kernel_rfl) (by kernel_rfl) (fun _ _ _ h => h) (Or.inl ⟨by kernel_rfl, fun u hu => by kernel_rfl⟩) hHeld ?_
      simp only [Act.put, List.setIfInBounds_toArray, List.set_cons_zero, List.set_cons_succ]
      refine go_take 11 40 _ (.int .i64 x.BN) rfl (by kernel_rfl) (by kernel_rfl) (by kernel_rfl) (by kernel_rfl) (fun _ _ _ h => h) (Or.inl ⟨by kernel_rfl, fun u hu => load_int (hxu u hu.1).cells.2.2.2.1 (.tmp 39) (by kernel_rfl) (by kernel_rfl)⟩) hHeld ?_
      simp only [Act.put, List.setIfInBounds_toArray, List.set_cons_zero, List.set_cons_succ]
      refine go_callE 4 33 _ rfl (by kernel_rfl) (by kernel_rfl) (by kernel_rfl) 18 (.func 18) #[.tmp 30, .tmp 32] #[3, 3] (by kernel_rfl) #[] (by kernel_rfl) #[.int .i64 x.A, .int .i64 x.AN] (by kernel_rfl) (enters_of Tryz.func18 (by kernel_rfl) rfl) (fun v u => v = .string ⟨T1.toArray⟩ ∧ Below wd.heap.size wd u) ((nrange_f x.A x.AN (by omega) (by omega) (by omega) (by omega) wd (HTb.out.on hHeld.2) T1 HT1).mono (fun _ q hq => ⟨_, hq.1, ⟨hHeld.1.trans (others_low hq.2), hHeld.2.trans (hq.2.mono hHeld.2.size)⟩, rfl, hq.2⟩)) ?_
      rintro _ u1 hH1 ⟨rfl, hL1⟩
      simp only [Act.put, List.setIfInBounds_toArray, List.set_cons_zero, List.set_cons_succ]
      refine go_callE 6 35 _ rfl (by kernel_rfl) (by kernel_rfl) (by kernel_rfl) 19 (.func 19) #[.tmp 34] #[52] (by kernel_rfl) #[] (by kernel_rfl) #[hkV x (.slice yo x.ls.length yc)] (by kernel_rfl) (enters_of Tryz.func19 (by kernel_rfl) rfl) (fun v u => v = .string ⟨T2.toArray⟩ ∧ Below u1.heap.size u1 u) ((nletter_f x _ u1 (HMk.keep hml hH1.2 (Nat.le_refl _)) T2 HT2).mono (fun _ q hq => ⟨_, hq.1, ⟨hH1.1.trans (others_low hq.2), hH1.2.trans (hq.2.mono hH1.2.size)⟩, rfl, hq.2⟩)) ?_
      rintro _ u2 hH2 ⟨rfl, hL2⟩
      simp only [Act.put, List.setIfInBounds_toArray, List.set_cons_zero, List.set_cons_succ]
      refine go_take 7 36 _ (.string ⟨(T1 ++ T2).toArray⟩) rfl (by kernel_rfl) (by kernel_rfl) (by kernel_rfl) (by kernel_rfl) (fun _ _ _ h => h) (Or.inl ⟨by kernel_rfl, fun u hu => exec_addS hF1 (.tmp 33) (.tmp 35) (by kernel_rfl) (by kernel_rfl) (by kernel_rfl)⟩) hH2 ?_
      simp only [Act.put, List.setIfInBounds_toArray, List.set_cons_zero, List.set_cons_succ]
      refine go_callE 12 41 _ rfl (by kernel_rfl) (by kernel_rfl) (by kernel_rfl) 18 (.func 18) #[.tmp 38, .tmp 40] #[3, 3] (by kernel_rfl) #[] (by kernel_rfl) #[.int .i64 x.B, .int .i64 x.BN] (by kernel_rfl) (enters_of Tryz.func18 (by kernel_rfl) rfl) (fun v u => v = .string ⟨T3.toArray⟩ ∧ Below u2.heap.size u2 u) ((nrange_f x.B x.BN (by omega) (by omega) (by omega) (by omega) u2 (HTb.out.on hH2.2) T3 HT3).mono (fun _ q hq => ⟨_, hq.1, ⟨hH2.1.trans (others_low hq.2), hH2.2.trans (hq.2.mono hH2.2.size)⟩, rfl, hq.2⟩)) ?_
      rintro _ u3 hH3 ⟨rfl, hL3⟩
      simp only [Act.put, List.setIfInBounds_toArray, List.set_cons_zero, List.set_cons_succ]
      refine go_take 13 42 _ (.string ⟨(T1 ++ T2 ++ T3).toArray⟩) rfl (by kernel_rfl) (by kernel_rfl) (by kernel_rfl) (by kernel_rfl) (fun _ _ _ h => h) (Or.inl ⟨by kernel_rfl, fun u hu => exec_addS hF2 (.tmp 36) (.tmp 41) (by kernel_rfl) (by kernel_rfl) (by kernel_rfl)⟩) hH3 ?_
      simp only [Act.put, List.setIfInBounds_toArray, List.set_cons_zero, List.set_cons_succ]
      refine go_take 14 43 _ (.string ⟨(T1 ++ T2 ++ T3 ++ [10]).toArray⟩) rfl (by kernel_rfl) (by kernel_rfl) (by kernel_rfl) (by kernel_rfl) (fun _ _ _ h => h) (Or.inl ⟨by kernel_rfl, fun u hu => exec_addS hF3 (.tmp 42) (.const (.string ⟨#[10]⟩)) (by kernel_rfl) (by kernel_rfl) (by kernel_rfl)⟩) hH3 ?_
      simp only [Act.put, List.setIfInBounds_toArray, List.set_cons_zero, List.set_cons_succ]
      have hbS : Below wd.heap.size wd u3 := hL1.trans ((hL2.trans (hL3.mono hL2.size)).mono hL1.size)
      have hB3 := isF_low hBd hbS
      have hz3 : w1.heap.size ≤ u3.heap.size := hH3.2.size
      have hws := ws_held (s := T1 ++ T2 ++ T3 ++ [10]) hB3 (by omega) hz3 hH3
      refine go_callE 15 44 _ rfl (by kernel_rfl) (by kernel_rfl) (by kernel_rfl) 17 (.func 17) #[.tmp 10, .tmp 43] #[65, 9] (by kernel_rfl) #[] (by kernel_rfl) #[.pointer (some ⟨w1.heap.size, 0, none⟩), .string ⟨(T1 ++ T2 ++ T3 ++ [10]).toArray⟩] (by kernel_rfl) (enters_of Tryz.func17 (by kernel_rfl) rfl) (fun v u => Lib.IsBuilderF 65 5 w1.heap.size w1.heap.size (Lib.byteCells (acc ++ (T1 ++ T2 ++ T3 ++ [10]))) u ∧ ∃ z, v = .tuple #[z, .nilIface]) (?_) ?_
      · exact hws
      clear hws
      rintro _ u4 hH4 ⟨hB4, z4, rfl⟩
      simp only [Act.put, List.setIfInBounds_toArray, List.set_cons_zero, List.set_cons_succ]
      refine wpAnyH_done (by kernel_rfl) ?_ _
      refine NoPanic.normal ?_
      have hx4 := hxu u4 hH4.1
      obtain ⟨d0, d1, d2, d3, d4⟩ := hx4.cells
      clear hHeld hH1 hH2 hH3 hL1 hL2 hL3 hB3 hz3 hbS hBd hB2
      go_wp2_with fail
      refine (hOld_o x (.slice yo x.ls.length yc) u4 (HMk.keep hml hH4.2 (Nat.le_refl _)) hxl RA HOl).mono ?_
      rintro e u5 ⟨vo, rfl, hown5, hL5⟩
      have hform5 : ∃ vo1 vc1, vo = .slice vo1 RA.length vc1 := Holds.form (holds_of hown5)
      have hz4 : w1.heap.size < u4.heap.size := Nat.lt_trans hHb hx4.lt
      have HV5 : Hid (∀ u, Lib.OthersKept 5 (some w1.heap.size) u5 u → HS u vo RA) := fun u hu => holds_of (owns_others hown5 hu (fun g hg => by have := owns_ge hown5 hg; omega))
      have hb5 := hH4.2.trans (hL5.mono hH4.2.size)
      have hB5 := isF_low hB4 hL5
      have hx5 := hx4.low hL5
      clear hown5 d0 d1 d2 d3 d4
      go_wp2_with fail
      refine (nlines_f w1.heap.size w1.heap.size _ [60, 32] RA vo u5 hB5 hb5.size hform5 HV5 (by omega) HRAt (by decide) ac2 HA2 (by omega)).mono ?_
      rintro e u6 ⟨rfl, hB6, hb6', ho6⟩
      have hx6 := hx_others hx5 ho6 (by omega)
      have hb6 := hb5.trans hb6'
      clear hB5 hb5 hx5 HV5 hform5 hb6' ho6 hx4 hB4 hH4 HA2
      obtain ⟨d0, d1, d2, d3, d4⟩ := hx6.cells
      go_wp2_with fail
      refine (ndivided_f x (.slice yo x.ls.length yc) u6 ⟨_, _, _, rfl⟩ dv HDV).mono ?_
      rintro e u7 ⟨rfl, hL7⟩
      have hx7 := hx6.low hL7
      have hb7 := hb6.trans (hL7.mono hb6.size)
      have hB7 := isF_low hB6 hL7
      clear d0 d1 d2 d3 d4 hx6 hb6 hB6 hL7 HDV
      cases dv with
      | false =>
        rw [if_neg (by decide), List.append_nil] at HA4
        obtain ⟨d0, d1, d2, d3, d4⟩ := hx7.cells
        go_wp2_with fail
        refine (hNew_o x (.slice yo x.ls.length yc) u7 (HMk.keep hml hb7 (Nat.le_refl _)) hxl RB HNw).mono ?_
        rintro e u8 ⟨vn, rfl, hown8, hL8⟩
        have hform8 : ∃ vo vc, vn = .slice vo RB.length vc := Holds.form (holds_of hown8)
        have hz7 : w1.heap.size < u7.heap.size := Nat.lt_of_lt_of_le hHb (Nat.le_of_lt hx7.lt)
        have HV8 : Hid (∀ u, Lib.OthersKept 5 (some w1.heap.size) u8 u → HS u vn RB) := fun u hu => holds_of (owns_others hown8 hu (fun g hg => by have := owns_ge hown8 hg; omega))
        have hb8 := hb7.trans (hL8.mono hb7.size)
        have hB8 := isF_low hB7 hL8
        clear hown8 d0 d1 d2 d3 d4
        go_wp2_with fail
        refine (nlines_f w1.heap.size w1.heap.size _ [62, 32] RB vn u8 hB8 hb8.size hform8 HV8 (by omega) HRBt (by decide) ac4 HA4 hal4).mono ?_
        rintro e u9 ⟨rfl, hB9, hb9, ho9⟩
        go_wp2
        exact ⟨⟨k + 1, ac4, by omega, by go_num, hB9, hb8.trans hb9, HEnd⟩, by simp [intOf]; omega⟩
      | true =>
        rw [if_pos rfl] at HA4 hal2
        have hz7b : w1.heap.size ≤ u7.heap.size := hb7.size
        go_wp2_with fail
        refine (Tryz.WriteString_h w1.heap.size w1.heap.size _ _ u7 hB7 (by rw [bcells_len]; show ac2.length + 4 ≤ _; simp only [List.length_cons, List.length_nil] at hal2; omega) hz7b).mono ?_
        rintro e u71 ⟨rfl, hB71, hb71, ho71⟩
        have hB72 : Lib.IsBuilderF 65 5 w1.heap.size w1.heap.size (Lib.byteCells (ac2 ++ [45, 45, 45, 10])) u71 := .inr (by rw [Lib.byteCells_append]; exact hB71)
        have hx72 := hx_others hx7 ho71 (by omega)
        have hb72 := hb7.trans hb71
        clear hB71 hb71 ho71 hB7 hx7 hb7 hz7b
        have hB7 := hB72
        have hx7 := hx72
        have hb7 := hb72
        clear hB72 hx72 hb72
        generalize u71 = u7 at *
        obtain ⟨d0, d1, d2, d3, d4⟩ := hx7.cells
        go_wp2_with fail
        refine (hNew_o x (.slice yo x.ls.length yc) u7 (HMk.keep hml hb7 (Nat.le_refl _)) hxl RB HNw).mono ?_
        rintro e u8 ⟨vn, rfl, hown8, hL8⟩
        have hform8 : ∃ vo vc, vn = .slice vo RB.length vc := Holds.form (holds_of hown8)
        have hz7 : w1.heap.size < u7.heap.size := Nat.lt_of_lt_of_le hHb (Nat.le_of_lt hx7.lt)
        have HV8 : Hid (∀ u, Lib.OthersKept 5 (some w1.heap.size) u8 u → HS u vn RB) := fun u hu => holds_of (owns_others hown8 hu (fun g hg => by have := owns_ge hown8 hg; omega))
        have hb8 := hb7.trans (hL8.mono hb7.size)
        have hB8 := isF_low hB7 hL8
        clear hown8 d0 d1 d2 d3 d4
        go_wp2_with fail
        refine (nlines_f w1.heap.size w1.heap.size _ [62, 32] RB vn u8 hB8 hb8.size hform8 HV8 (by omega) HRBt (by decide) ac4 HA4 hal4).mono ?_
        rintro e u9 ⟨rfl, hB9, hb9, ho9⟩
        go_wp2
        exact ⟨⟨k + 1, ac4, by omega, by go_num, hB9, hb8.trans hb9, HEnd⟩, by simp [intOf]; omega⟩
    · have HE : Hid (acc = T) := (by
        have h := HI.out
        rw [List.drop_of_length_le (by have := HPl.out; omega)] at h
        show acc = T
        simpa [prtT, prtL] using h)
      have hend : decide ((k : Int) < (P.length : Int)) = false := decide_eq_false (by omega)
      have hz := hbr.size
      clear HI
      go_wp2_with fail
      refine (Tryz.Builder_String_any_k w1.heap.size w1.heap.size acc wr hBr hz).mono ?_
      rintro e w2 ⟨rfl, -, hb2, -⟩
      go_wp2
      go_ret2
      exact ⟨by rw [HE.out]; rfl, hlow.trans ((hbr.trans hb2).mono hlow.size)⟩
  · have hrb : (r != 0) = true := bne_iff_ne.2 hr
    have hTT := HT.out
    rw [if_neg hr] at hTT
    subst hTT
    go_wp2
    go_ret2
    exact ⟨rfl, hlow⟩
end Go.Proofs.YtncpkodfcifpkaaGreatDoor

/- The reference's reader of lines, walked: its place, its first fault; the next line. -/
set_option maxRecDepth 20000
namespace Go.Proofs.YtncpkodfcifpkaaGreatDoor
open Go.RowKit

section
variable {u u' : World} {R : Nat} {vL : Value} {p fa fe : Int}
end
theorem grown_two {w u v : World} {r : Option Nat} (h : w.grownBy u r) (h' : u.grownBy v r) : w.grownBy v r :=
  ⟨h'.os.trans h.os, h'.tape.trans h.tape, h'.output.trans h.output, Nat.le_trans h.size h'.size, fun k hk hr => (h'.block k (Nat.lt_of_lt_of_le hk h.size) hr).trans (h.block k hk hr)⟩
theorem nxt_drop {L : List (List UInt8)} {p : Nat} (hp : p < L.length) : nxt p (L.drop p) = if fdB L[p] = true then .ok (L[p].dropLast, L.drop (p + 1)) else .error (p + 1, 3) := by
  rw [List.drop_eq_getElem_cons hp]
  rfl
theorem nxt_end {L : List (List UInt8)} {p : Nat} (hp : L.length ≤ p) : nxt p (L.drop p) = .error (p + 1, 1) := by
  rw [List.drop_eq_nil_of_le hp]
  rfl
end Go.Proofs.YtncpkodfcifpkaaGreatDoor

/- The reference's reader, walked: does the next line begin with some bytes? -/
set_option maxRecDepth 20000
namespace Go.Proofs.YtncpkodfcifpkaaGreatDoor
open Go.RowKit
attribute [local go_sem] ByteArray.extract_mk no_at

theorem pre_take (sg l : List UInt8) : sg.isPrefixOf l = (decide (sg.length ≤ l.length) && (l.take sg.length == sg)) := by
  rw [Bool.eq_iff_iff, List.isPrefixOf_iff_prefix, Bool.and_eq_true, decide_eq_true_eq, beq_iff_eq]
  constructor
  · rintro ⟨t, rfl⟩
    simp
  · rintro ⟨_, h⟩
    refine ⟨l.drop sg.length, ?_⟩
    have h2 := List.take_append_drop sg.length l
    rw [h] at h2
    exact h2
end Go.Proofs.YtncpkodfcifpkaaGreatDoor

/- The reference's reader, walked: a line with a sign, behind which the mark may stand. -/
set_option maxRecDepth 20000
namespace Go.Proofs.YtncpkodfcifpkaaGreatDoor
open Go.RowKit
attribute [local go_sem] ByteArray.extract_mk no_at

theorem HS.away {w w' : World} {R : Nat} {lo : Option Addr} {lc : Nat} {L : List (List UInt8)} (h : HS w (.slice lo L.length lc) L) (hg : w.grownBy w' (some R)) (hR : ∀ a, lo = some a → a.block ≠ R) : HS w' (.slice lo L.length lc) L := by
  rcases h with h | ⟨ad, c, hv, hnc, hc⟩
  · exact .inl h
  · refine .inr ⟨ad, c, hv, hnc, fun j u hj => ?_⟩
    cases hv
    have h1 := hc j u hj
    have hb : (ad.add j).block = ad.block := by unfold Addr.add; split <;> rfl
    have hlt := World.block_lt_of_cell? w _ h1
    rw [World.cell?_of_block (w := w) (hg.block _ hlt (fun e => hR ad rfl (by rw [← hb]; exact Option.some.inj e)))]
    exact h1
end Go.Proofs.YtncpkodfcifpkaaGreatDoor

/- The code's reader of lines, walked: what is wrong is thrown; the next line; the line between. -/
set_option maxRecDepth 20000
namespace Go.Proofs.YtncpkodfcifpkaaGreatDoor
open Go.RowKit
attribute [local go_sem] ByteArray.extract_mk no_at

/-- a reader: its lines, how many are read -/
def ryO (vL : Value) (p : Int) : Obj := .cells #[vL, .int .i64 p] 103
def Ry (u : World) (R : Nat) (vL : Value) (p : Int) : Prop := u.heap[R]? = some (ryO vL p)
/-- a fault -/
def fltO (a z : Int) : Obj := .cells #[.int .i64 a, .iface 26 (.int .i64 z)] 76
section
variable {u u' : World} {R : Nat} {vL : Value} {p : Int}
theorem Ry.cells (q : Ry u R vL p) : u.cell? ⟨R, 0, none⟩ = some vL ∧ u.cell? ⟨R, 1, none⟩ = some (.int .i64 p) := by
  unfold Ry ryO at q
  refine ⟨?_, ?_⟩ <;> rw [Lib.cell_of_heap q] <;> rfl
theorem Ry.frozen (q : Ry u R vL p) (j : Nat) : u.frozen? ⟨R, j, none⟩ = false := Lib.frozen_of_heap q j
theorem Ry.lt (q : Ry u R vL p) : R < u.heap.size := (Array.getElem?_eq_some_iff.1 q).1
theorem Ry.dN (q : Ry u R vL p) (n : Nat) : Ry (u.drewN n) R vL p := q
theorem Ry.at (q : Ry u R vL p) (p' : Int) : Ry (u.setCell ⟨R, 1, none⟩ (.int .i64 p')) R vL p' := heap_setCell_same u R 1 _ _ (.int .i64 p') q
theorem Ry.low (q : Ry u R vL p) (hg : Below u.heap.size u u') : Ry u' R vL p := (hg.block R q.lt).trans q
theorem Ry.keep (q : Ry u R vL p) {g : Option Nat} (hg : u.grownBy u' g) (hr : some R ≠ g) : Ry u' R vL p := (hg.block R q.lt hr).trans q
end
/-- what is wrong is thrown -/
def Thr (a z : Int) (x : Ending) (w' : World) : Prop := ∃ g, x = .panicked [{ v := .iface 74 (.pointer (some ⟨g, 0, none⟩)), recovered := false }] ∧ w'.heap[g]? = some (fltO a z)
set_option maxHeartbeats 1000000 in
theorem nthrow_f {R : Nat} {vL : Value} {p : Nat} (z : Int) (w : World) (q : Ry w R vL (p : Int)) (hp : p ≤ 4398046511104) :
    Calls Tryz.prog 68 #[.pointer (some ⟨R, 0, none⟩), .int .i64 z] w fun x w' => Thr ((p : Int) + 1) z x w' ∧ w.grownBy w' (some R) := by
  obtain ⟨c0, c1⟩ := q.cells
  have HQ : Hid ((w.alloc (fltO ((p : Int) + 1) z)).heap[w.heap.size]? = some (fltO ((p : Int) + 1) z) ∧ w.grownBy (w.alloc (fltO ((p : Int) + 1) z)) (some R)) := ⟨heap_alloc_new w _, World.grownBy_alloc w _ _⟩
  clear q
  go_enter Tryz.func68, Tryz.ntmps68
  go_wp2
  exact ⟨rfl, ⟨_, rfl, HQ.out.1⟩, HQ.out.2⟩
/-- what a line that is read leaves behind -/
def LnQ (R : Nat) (_vL : Value) (_p : Nat) (X : Except (Nat × Int) (List UInt8 × List (List UInt8))) (w : World) (x : Ending) (w' : World) : Prop :=
  match X with
  | .error (a, e) => Thr (a : Int) e x w' ∧ w.grownBy w' (some R)
  | .ok (s, _) => x = .returned (.string ⟨(s ++ [10]).toArray⟩) ∧ ∃ n, w' = w.drewN n
theorem drop_feed {s : List UInt8} (h : fdB s = true) : s.dropLast ++ [10] = s := (fd_form h).symm
set_option maxHeartbeats 4000000 in
theorem nline_f {R : Nat} {L : List (List UInt8)} {lo : Option Addr} {lc : Nat} {p : Nat} (w : World) (q : Ry w R (.slice lo L.length lc) p) (hL : HS w (.slice lo L.length lc) L) (hp : p ≤ L.length) (hLl : L.length ≤ 2199023255552) (hs : ∀ s ∈ L, s.length ≤ 1099511627776)
    (X : Except (Nat × Int) (List UInt8 × List (List UInt8))) (HX : Hid (nxt p (L.drop p) = X)) :
    Calls Tryz.prog 67 #[.pointer (some ⟨R, 0, none⟩)] w fun x w' => LnQ R (.slice lo L.length lc) p X w x w' := by
  have hX := HX.out
  clear HX
  by_cases hlt : p < L.length
  · rw [nxt_drop hlt] at hX
    obtain ⟨bk, off, rfl, hbk, hcl⟩ := HS.at hL (by omega)
    have d4 := hcl p hlt
    have hsl := hs L[p] (List.getElem_mem _)
    generalize L[p] = s at d4 hsl hX
    clear hcl hs hL
    obtain ⟨c0, c1⟩ := q.cells
    have e0 : ((p : Int) == (L.length : Int)) = false := beq_eq_false_iff_ne.2 (by omega)
    have i1 : (0 : Int) ≤ (p : Int) := by omega
    have i2 : (p : Int) < (L.length : Int) := by omega
    have i3 : (p : Int).toNat = p := by omega
    cases hf : fdB s with
    | true =>
      rw [if_pos hf] at hX
      subst hX
      have HD : Hid (s.dropLast ++ [10] = s) := drop_feed hf
      clear q
      go_enter Tryz.func67, Tryz.ntmps67
      go_wp2_with fail
      go_quiet (fail)
      go_wp2_with fail
      have c0' : (w.drewN nq).cell? ⟨R, 0, none⟩ = _ := c0
      have c1' : (w.drewN nq).cell? ⟨R, 1, none⟩ = _ := c1
      have d4' : (w.drewN nq).cell? ⟨bk, off + p, none⟩ = _ := d4
      have HM : Hid (∀ n, ∃ k, (w.drewN nq).drewN n = w.drewN k) := fun n => ⟨_, World.drewN_drewN w nq n⟩
      clear c0 c1 d4
      generalize w.drewN nq = W1 at c0' c1' d4' HM ⊢
      have j1 : (0 : Int) ≤ (p : Int) := by omega
      have j2 : (p : Int) < (L.length : Int) := by omega
      have j3 : (p : Int).toNat = p := by omega
      go_quiet (fail)
      go_wp2_with fail
      refine (Tryz.strings_HasSuffix ⟨s.toArray⟩ ⟨#[10]⟩ _ (by show s.length ≤ _; omega)).mono ?_
      rintro e w2 ⟨rfl, rfl⟩
      have e1 : Lib.hasSuffix (⟨s.toArray⟩ : ByteArray).data.toList (⟨#[10]⟩ : ByteArray).data.toList = true := (suf_feed s).trans hf
      rw [e1]
      clear e1 hf
      go_wp2
      go_ret
      refine ⟨?_, HM.out _⟩
      rw [HD.out]
      rfl
    | false =>
      rw [if_neg (by rw [hf]; decide)] at hX
      subst hX
      have q0 := q
      clear q
      go_enter Tryz.func67, Tryz.ntmps67
      go_wp2_with fail
      go_quiet (fail)
      go_wp2_with fail
      have c0' : (w.drewN nq).cell? ⟨R, 0, none⟩ = _ := c0
      have c1' : (w.drewN nq).cell? ⟨R, 1, none⟩ = _ := c1
      have d4' : (w.drewN nq).cell? ⟨bk, off + p, none⟩ = _ := d4
      have HM : Hid (∀ n, w.grownBy ((w.drewN nq).drewN n) (some R)) := fun n => grown_drewN (grown_drewN (low_grown (Below.refl _ _) _) nq) n
      have HQ : Hid (∀ n, Ry ((w.drewN nq).drewN n) R (.slice (some ⟨bk, off, none⟩) L.length lc) p) := fun n => (q0.dN nq).dN n
      clear c0 c1 d4 q0
      generalize w.drewN nq = W1 at c0' c1' d4' HM HQ ⊢
      have j1 : (0 : Int) ≤ (p : Int) := by omega
      have j2 : (p : Int) < (L.length : Int) := by omega
      have j3 : (p : Int).toNat = p := by omega
      go_quiet (fail)
      go_wp2_with fail
      refine (Tryz.strings_HasSuffix ⟨s.toArray⟩ ⟨#[10]⟩ _ (by show s.length ≤ _; omega)).mono ?_
      rintro e w2 ⟨rfl, rfl⟩
      have e1 : Lib.hasSuffix (⟨s.toArray⟩ : ByteArray).data.toList (⟨#[10]⟩ : ByteArray).data.toList = false := (suf_feed s).trans hf
      rw [e1]
      clear e1 hf
      go_wp2_with fail
      refine (nthrow_f 3 _ (HQ.out _) (by omega)).mono ?_
      rintro e w3 ⟨⟨g, rfl, hg⟩, hgr⟩
      go_wp2
      exact ⟨rfl, ⟨_, rfl, hg⟩, grown_two (HM.out _) hgr⟩
  · rw [nxt_end (by omega)] at hX
    subst hX
    obtain ⟨c0, c1⟩ := q.cells
    have e0 : ((p : Int) == (L.length : Int)) = true := beq_iff_eq.2 (by omega)
    have HM : Hid (∀ n, w.grownBy (w.drewN n) (some R)) := fun n => grown_drewN (low_grown (Below.refl _ _) _) n
    have HQ : Hid (∀ n, Ry (w.drewN n) R (.slice lo L.length lc) p) := fun n => q.dN n
    clear q hs hL
    go_enter Tryz.func67, Tryz.ntmps67
    go_wp2_with fail
    go_quiet (fail)
    go_wp2_with fail
    refine (nthrow_f 1 _ (HQ.out _) (by omega)).mono ?_
    rintro e w3 ⟨⟨g, rfl, hg⟩, hgr⟩
    go_wp2
    exact ⟨rfl, ⟨_, rfl, hg⟩, grown_two (HM.out _) hgr⟩
end Go.Proofs.YtncpkodfcifpkaaGreatDoor
