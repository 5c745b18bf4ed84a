/-
  Texts that belong together, joined: NoMath, NoM2, NoM3, NoM4, CxMath, HuLn, CxM2, CxM3.
-/
import Derived.Test.YtgcccpmcbjfaaaaDoorPartA3
import Derived.Test.YtgcccpmcbjfaaaaDoorPartA6
import Derived.Test.YtgcccpmcbjfaaaaDoorPartA5
import Derived.BigQuiet

/- The normal form as texts and as lines: how it is written, how it is read; plain mathematics. -/
namespace Go.Proofs.YtgcccpmcbjfaaaaDoor
open Ln

/-- the mark: '\ No newline at end of file' with its line feed -/
def markT : List UInt8 := [92, 32, 78, 111, 32, 110, 101, 119, 108, 105, 110, 101, 32, 97, 116, 32, 101, 110, 100, 32, 111, 102, 32, 102, 105, 108, 101, 10]
/-- so many lines from a place on -/
def rngT (p n : Int) : List UInt8 := if n = 1 then Lib.itoa (p + 1) else Lib.itoa (p + 1) ++ 44 :: Lib.itoa (p + n)
/-- a line behind a sign, as lines -/
def lnL (ah s : List UInt8) : List (List UInt8) := if fdB s = true then [ah ++ s] else [ah ++ s ++ [10], markT]
/-- the line that says a change -/
def cmdT (c : Ch) : List UInt8 := if c.AN = 0 then Lib.itoa c.A ++ 97 :: rngT c.B c.BN else if c.BN = 0 then rngT c.A c.AN ++ 100 :: Lib.itoa c.B else rngT c.A c.AN ++ 99 :: rngT c.B c.BN
/-- the line between old and new lines -/
def sepL (c : Ch) : List (List UInt8) := if 0 < c.AN ∧ 0 < c.BN then [[45, 45, 45, 10]] else []
/-- a change, as lines -/
def chgL (a b : List (List UInt8)) (c : Ch) : List (List UInt8) := (cmdT c ++ [10]) :: ((cut a c.A c.AN).flatMap (lnL [60, 32]) ++ (sepL c ++ (cut b c.B c.BN).flatMap (lnL [62, 32])))
/-- an edit script, as lines, and as a text -/
def prtL (l : List Ch) (a b : List (List UInt8)) : List (List UInt8) := l.flatMap (chgL a b)
def prtT (l : List Ch) (a b : List (List UInt8)) : List UInt8 := (prtL l a b).flatten

/-- the next line without its line feed, and what is behind it -/
def nxt (p : Nat) : List (List UInt8) → Except (Nat × Int) (List UInt8 × List (List UInt8))
  | [] => .error (p + 1, 1)
  | s :: r => if fdB s = true then .ok (s.dropLast, r) else .error (p + 1, 3)
/-- is the next line the mark? -/
def pkM : List (List UInt8) → Bool
  | [] => false
  | s :: _ => markT.isPrefixOf s
/-- a line with a sign; if it is the last one, the mark may stand behind it -/
def mkd (sg : List UInt8) (last : Bool) (p : Nat) (ls : List (List UInt8)) : Except (Nat × Int) (List UInt8 × Nat × List (List UInt8)) :=
  match nxt p ls with
  | .error e => .error e
  | .ok (s, r) => if sg.isPrefixOf s = true then if (last && pkM r) = true then if s.drop sg.length = [] then .error (p + 2, 3) else .ok (s.drop sg.length, p + 2, r.tail) else .ok (s.drop sg.length ++ [10], p + 1, r) else .error (p + 1, 3)
/-- so many lines with a sign -/
def rdN (sg : List UInt8) (S : Int) : Nat → Nat → List (List UInt8) → Except (Nat × Int) (List Mk × Nat × List (List UInt8))
  | 0, p, ls => .ok ([], p, ls)
  | n + 1, p, ls => match mkd sg (n == 0) p ls with
    | .error e => .error e
    | .ok (t, p1, r) => match rdN sg S n p1 r with
      | .error e => .error e
      | .ok (l, p2, r2) => .ok (⟨S, t⟩ :: l, p2, r2)
/-- the line between -/
def sepP (p : Nat) (ls : List (List UInt8)) : Except (Nat × Int) (Nat × List (List UInt8)) :=
  match nxt p ls with
  | .error e => .error e
  | .ok (s, r) => if s = [45, 45, 45] then .ok (p + 1, r) else .error (p + 1, 3)
/-- a text up to a byte, and what is behind it -/
def spB (q : UInt8 → Bool) : List UInt8 → Option (List UInt8 × UInt8 × List UInt8)
  | [] => none
  | c :: t => if q c = true then some ([], c, t) else match spB q t with
    | none => none
    | some (a, d, b) => some (c :: a, d, b)
def isC (c : UInt8) : Bool := c == 97 || c == 99 || c == 100
def isK (c : UInt8) : Bool := c == 44
/-- a range of lines: the first one, how many -/
def lnsP (s : List UInt8) : Option (Int × Int) := match spB isK s with
  | some (x, _, y) => if Pn.parseE x = 0 ∧ Pn.parseE y = 0 ∧ 1 ≤ Pn.parseV x ∧ Pn.parseV x < Pn.parseV y then some (Pn.parseV x, Pn.parseV y - Pn.parseV x + 1) else none
  | none => if Pn.parseE s = 0 ∧ 1 ≤ Pn.parseV s then some (Pn.parseV s, 1) else none
def oneP (s : List UInt8) : Option (Int × Int) := if Pn.parseE s = 0 then some (Pn.parseV s, 0) else none
/-- a line that says a change: A, AN, B, BN -/
def cmdP (s : List UInt8) : Option (Int × Int × Int × Int) := match spB isC s with
  | none => none
  | some (x, c, y) => match (if c = 97 then oneP x else lnsP x), (if c = 100 then oneP y else lnsP y) with
    | some (A, AN), some (B, BN) => some (A, AN, B, BN)
    | _, _ => none
/-- a hunk; so many are ahead of it -/
def hkP (k p : Nat) (ls : List (List UInt8)) : Except (Nat × Int) (Hk × Nat × List (List UInt8)) :=
  match nxt p ls with
  | .error e => .error e
  | .ok (s, r) => match cmdP s with
    | none => .error (p + 1, 3)
    | some (A, AN, B, BN) => if 4096 ≤ k then .error (p + 1, 9) else match rdN [60, 32] 45 AN.toNat (p + 1) r with
      | .error e => .error e
      | .ok (l1, p1, r1) => match (if 0 < AN ∧ 0 < BN then sepP p1 r1 else .ok (p1, r1)) with
        | .error e => .error e
        | .ok (p2, r2) => match rdN [62, 32] 43 BN.toNat p2 r2 with
          | .error e => .error e
          | .ok (l2, p3, r3) => .ok (⟨A, AN, B, BN, l1 ++ l2⟩, p3, r3)
/-- all hunks, by as many steps as there are lines -/
def hksP : Nat → Nat → Nat → List (List UInt8) → Except (Nat × Int) (List Hk)
  | 0, _, _, _ => .ok []
  | f + 1, k, p, ls => if ls = [] then .ok [] else match hkP k p ls with
    | .error e => .error e
    | .ok (h, p1, r) => match hksP f (k + 1) p1 r with
      | .error e => .error e
      | .ok l => .ok (h :: l)
/-- a text is read -/
def prsT (t : List UInt8) : Except (Nat × Int) (List Hk) := if 1048576 < t.length then .error (0, 9) else hksP (splitL t).length 0 0 (splitL t)

/-- how many lines what was read takes -/
def ltC (l : List Mk) : Nat := (l.filter fun m => !fdB m.tx).length
def hkC1 (h : Hk) : Nat := 1 + h.ls.length + ltC h.ls + (if 0 < h.AN ∧ 0 < h.BN then 1 else 0)
def hksC : List Hk → Nat
  | [] => 0
  | h :: l => hkC1 h + hksC l
theorem ltC_append (x y : List Mk) : ltC (x ++ y) = ltC x + ltC y := by simp [ltC]
/-- no line feed within a line but at its end -/
def Plain (ls : List (List UInt8)) : Prop := ∀ s ∈ ls, ∀ c ∈ s.dropLast, c ≠ 10
theorem fd_no {s : List UInt8} (h : ∀ c ∈ s, c ≠ 10) : fdB s = false := by
  unfold fdB
  cases hq : s.getLast? with
  | none => rfl
  | some x =>
    have := h x (List.mem_of_getLast? hq)
    simpa using this
theorem fd_snoc (s : List UInt8) : fdB (s ++ [10]) = true := by simp [fdB]
theorem nxt_ok {p : Nat} {ls r : List (List UInt8)} {s : List UInt8} (h : nxt p ls = .ok (s, r)) : ls = (s ++ [10]) :: r := by
  cases ls with
  | nil => cases h
  | cons x r' =>
    simp only [nxt] at h
    split at h
    · rename_i hf
      cases h
      unfold fdB at hf
      have h1 : x.getLast? = some 10 := by simpa using hf
      obtain ⟨q, rfl⟩ := List.getLast?_eq_some_iff.1 h1
      simp
    · cases h
theorem mkd_ok {sg : List UInt8} {last : Bool} {p p1 : Nat} {ls r : List (List UInt8)} {t : List UInt8} (hP : Plain ls) (h : mkd sg last p ls = .ok (t, p1, r)) : p1 = p + 1 + (if fdB t = true then 0 else 1) ∧ ls.length + p = r.length + p1 ∧ Plain r ∧ (fdB t = false → last = true ∧ t ≠ []) ∧ linB t = true := by
  unfold mkd at h
  split at h
  · cases h
  · rename_i s r0 hn
    have hls := nxt_ok hn
    subst hls
    have hs : ∀ c ∈ s, c ≠ 10 := by
      have := hP (s ++ [10]) (by simp)
      simpa using this
    have hPr : Plain r0 := fun x hx => hP x (by simp [hx])
    split at h
    · split at h
      · rename_i hl
        split at h
        · cases h
        · rename_i hne
          cases h
          have hd : ∀ c ∈ s.drop sg.length, c ≠ 10 := fun c hc => hs c (List.mem_of_mem_drop hc)
          have hf := fd_no hd
          simp only [Bool.and_eq_true] at hl
          have hlen : r0.tail.length + 1 = r0.length := by
            cases r0 with
            | nil => simp [pkM] at hl
            | cons => simp
          refine ⟨by rw [hf]; rfl, by simp only [List.length_cons]; omega, fun x hx => hPr x (List.mem_of_mem_tail hx), fun _ => ⟨hl.1, hne⟩, ?_⟩
          unfold linB
          have e1 : (s.drop sg.length).isEmpty = false := by
            cases hq : s.drop sg.length with
            | nil => exact absurd hq hne
            | cons => rfl
          rw [e1]
          simp only [Bool.not_false, Bool.true_and, List.all_eq_true]
          intro c hc
          have := hd c ((List.dropLast_sublist _).subset hc)
          simpa using this
      · cases h
        refine ⟨by rw [fd_snoc]; rfl, by simp only [List.length_cons]; omega, hPr, fun hq => (by rw [fd_snoc] at hq; cases hq), ?_⟩
        unfold linB
        simp only [List.dropLast_concat]
        have e1 : (s.drop sg.length ++ [10]).isEmpty = false := by cases s.drop sg.length <;> rfl
        rw [e1]
        simp only [Bool.not_false, Bool.true_and, List.all_eq_true]
        intro c hc
        have := hs c (List.mem_of_mem_drop hc)
        simpa using this
    · cases h
theorem nxt_len {p : Nat} {ls r : List (List UInt8)} {s : List UInt8} (hP : Plain ls) (h : nxt p ls = .ok (s, r)) : ls.length = r.length + 1 ∧ Plain r := by
  have := nxt_ok h
  subst this
  exact ⟨rfl, fun x hx => hP x (by simp [hx])⟩
theorem rdN_ok {sg : List UInt8} {S : Int} (n : Nat) : ∀ {p p1 : Nat} {ls r : List (List UInt8)} {l : List Mk}, Plain ls → rdN sg S n p ls = .ok (l, p1, r) → l.length = n ∧ p1 = p + n + ltC l ∧ ls.length + p = r.length + p1 ∧ Plain r ∧ (∀ m ∈ l, m.sg = S ∧ linB m.tx = true) ∧ (∀ m ∈ l.dropLast, fdB m.tx = true) := by
  induction n with
  | zero =>
    intro p p1 ls r l hP h
    simp only [rdN] at h
    cases h
    exact ⟨rfl, by simp [ltC], rfl, hP, fun m hm => (by cases hm), fun m hm => (by cases hm)⟩
  | succ n ih =>
    intro p p1 ls r l hP h
    simp only [rdN] at h
    split at h
    · cases h
    · rename_i t q1 r1 hm
      obtain ⟨a1, a2, a3, a4, a5⟩ := mkd_ok hP hm
      split at h
      · cases h
      · rename_i l' q2 r2 hr
        obtain ⟨b1, b2, b3, b4, b5, b6⟩ := ih a3 hr
        cases h
        refine ⟨by simp [b1], ?_, by omega, b4, ?_, ?_⟩
        · have e : ltC (⟨S, t⟩ :: l') = (if fdB t = true then 0 else 1) + ltC l' := by
            cases hf : fdB t <;> simp [ltC, hf] <;> omega
          rw [e]
          omega
        · intro m hm
          rcases List.mem_cons.1 hm with rfl | hm
          · exact ⟨rfl, a5⟩
          · exact b5 m hm
        · intro m hm
          cases l' with
          | nil => cases hm
          | cons x l' =>
            rw [List.dropLast_cons_cons] at hm
            rcases List.mem_cons.1 hm with rfl | hm
            · cases hf : fdB t with
              | true => rfl
              | false =>
                have h1 := (a4 hf).1
                simp only [beq_iff_eq] at h1
                simp only [List.length_cons] at b1
                omega
            · exact b6 m hm
theorem hkP_ok {k p p1 : Nat} {ls r : List (List UInt8)} {h : Hk} (hP : Plain ls) (hh : hkP k p ls = .ok (h, p1, r)) : p1 = p + hkC1 h ∧ ls.length + p = r.length + p1 ∧ Plain r := by
  unfold hkP at hh
  split at hh
  · cases hh
  · rename_i s r0 hn
    obtain ⟨a1, a2⟩ := nxt_len hP hn
    split at hh
    · cases hh
    · rename_i A AN B BN hc
      split at hh
      · cases hh
      · split at hh
        · cases hh
        · rename_i l1 q1 r1 h1
          obtain ⟨b1, b2, b3, b4, b5, _⟩ := rdN_ok _ a2 h1
          split at hh
          · cases hh
          · rename_i q2 r2 h2
            have hs : q2 = q1 + (if 0 < AN ∧ 0 < BN then 1 else 0) ∧ r1.length + q1 = r2.length + q2 ∧ Plain r2 := (by
              split at h2
              · rename_i hb
                rw [if_pos hb]
                unfold sepP at h2
                split at h2
                · cases h2
                · rename_i s3 r3 hn3
                  obtain ⟨c1, c2⟩ := nxt_len b4 hn3
                  split at h2
                  · cases h2
                    exact ⟨rfl, by omega, c2⟩
                  · cases h2
              · rename_i hb
                rw [if_neg hb]
                cases h2
                exact ⟨rfl, rfl, b4⟩)
            split at hh
            · cases hh
            · rename_i l2 q3 r3 h3
              obtain ⟨d1, d2, d3, d4, d5, _⟩ := rdN_ok _ hs.2.2 h3
              cases hh
              refine ⟨?_, by omega, d4⟩
              have hs1 := hs.1
              simp only [hkC1, List.length_append, ltC_append]
              omega
/-- what was read takes just as many lines -/
theorem hksP_ok (f : Nat) : ∀ {k p : Nat} {ls : List (List UInt8)} {l : List Hk}, Plain ls → ls.length ≤ f → hksP f k p ls = .ok l → hksC l = ls.length := by
  induction f with
  | zero =>
    intro k p ls l hP hf h
    simp only [hksP] at h
    cases h
    have : ls.length = 0 := by omega
    simp [hksC, this]
  | succ f ih =>
    intro k p ls l hP hf h
    simp only [hksP] at h
    split at h
    · rename_i he
      cases h
      subst he
      rfl
    · split at h
      · cases h
      · rename_i hk q1 r1 h1
        obtain ⟨a1, a2, a3⟩ := hkP_ok hP h1
        have hpos : 0 < hkC1 hk := by unfold hkC1; omega
        split at h
        · cases h
        · rename_i l' h2
          have := ih a3 (by omega) h2
          cases h
          simp only [hksC]
          omega
theorem split_plain (t : List UInt8) : Plain (splitL t) := by
  have h := split_right t
  generalize splitL t = L at h
  induction L with
  | nil => intro s hs; cases hs
  | cons x L ih =>
    simp only [checkB, Bool.and_eq_true] at h
    intro s hs
    rcases List.mem_cons.1 hs with rfl | hs
    · intro c hc
      have h1 := h.1
      rw [lineB_eq] at h1
      simp only [Bool.and_eq_true, linB] at h1
      have := (List.all_eq_true.1 h1.1.2) c hc
      simpa using this
    · exact ih h.2 s hs
end Go.Proofs.YtgcccpmcbjfaaaaDoor

/- What is written in the normal form is read as the hunks without context; plain mathematics. -/
namespace Go.Proofs.YtgcccpmcbjfaaaaDoor
open Ln

/-- bytes of numbers and ranges -/
def numC (c : UInt8) : Bool := Pn.digB c || c == 44
theorem itoa_dig {n : Int} (h : 0 ≤ n) : ∀ c ∈ Lib.itoa n, Pn.digB c = true := by
  intro c hc
  obtain ⟨m, rfl⟩ : ∃ m : Nat, n = m := ⟨n.toNat, by omega⟩
  rw [itoa_nat] at hc
  exact (List.all_eq_true.1 (dec_all m)) c hc
theorem itoa_ne {n : Int} (h : 0 ≤ n) : Lib.itoa n ≠ [] := by
  obtain ⟨m, rfl⟩ : ∃ m : Nat, n = m := ⟨n.toNat, by omega⟩
  rw [itoa_nat]
  exact dec_ne m
theorem rng_num {p n : Int} (hp : 0 ≤ p) (hn : 1 ≤ n) : ∀ c ∈ rngT p n, numC c = true := by
  intro c hc
  unfold rngT at hc
  unfold numC
  split at hc
  · rw [itoa_dig (by omega) c hc]; rfl
  · rcases List.mem_append.1 hc with hc | hc
    · rw [itoa_dig (by omega) c hc]; rfl
    · rcases List.mem_cons.1 hc with rfl | hc
      · simp
      · rw [itoa_dig (by omega) c hc]; rfl
theorem dig_facts {c : UInt8} (h : Pn.digB c = true) : isC c = false ∧ isK c = false ∧ c ≠ 10 ∧ c ≠ 92 := by
  have h1 := Pn.digB_out h
  refine ⟨?_, ?_, ?_, ?_⟩
  · unfold isC
    simp only [Bool.or_eq_false_iff, beq_eq_false_iff_ne]
    refine ⟨⟨?_, ?_⟩, ?_⟩ <;> (rintro rfl; simp at h1)
  · unfold isK
    rw [beq_eq_false_iff_ne]
    rintro rfl
    simp at h1
  · rintro rfl
    simp at h1
  · rintro rfl
    simp at h1
theorem num_facts {c : UInt8} (h : numC c = true) : isC c = false ∧ c ≠ 10 ∧ c ≠ 92 := by
  unfold numC at h
  rcases Bool.or_eq_true_iff.1 h with h | h
  · have := dig_facts h
    exact ⟨this.1, this.2.2.1, this.2.2.2⟩
  · have : c = 44 := by simpa using h
    subst this
    decide
theorem spB_app {q : UInt8 → Bool} {x y : List UInt8} {d : UInt8} (hx : ∀ c ∈ x, q c = false) (hd : q d = true) : spB q (x ++ d :: y) = some (x, d, y) := by
  induction x with
  | nil => simp [spB, hd]
  | cons c x ih =>
    simp only [List.cons_append, spB]
    rw [if_neg (by rw [hx c (by simp)]; decide), ih fun z hz => hx z (by simp [hz])]
theorem spB_none {q : UInt8 → Bool} {x : List UInt8} (hx : ∀ c ∈ x, q c = false) : spB q x = none := by
  induction x with
  | nil => rfl
  | cons c x ih =>
    simp only [spB]
    rw [if_neg (by rw [hx c (by simp)]; decide), ih fun z hz => hx z (by simp [hz])]
theorem lnsP_rng {p n : Int} (hp : 0 ≤ p) (hn : 1 ≤ n) (hb : p + n ≤ 2147483647) : lnsP (rngT p n) = some (p + 1, n) := by
  unfold rngT
  by_cases h1 : n = 1
  · rw [if_pos h1]
    unfold lnsP
    rw [spB_none (fun c hc => (dig_facts (itoa_dig (by omega) c hc)).2.1)]
    obtain ⟨e1, e2⟩ := parse_itoa_ok (n := p + 1) (by omega) (by omega)
    have hc : Pn.parseE (Lib.itoa (p + 1)) = 0 ∧ 1 ≤ Pn.parseV (Lib.itoa (p + 1)) := ⟨e2, by rw [e1]; omega⟩
    simp only
    rw [if_pos hc, e1, h1]
  · rw [if_neg h1]
    unfold lnsP
    rw [spB_app (fun c hc => (dig_facts (itoa_dig (by omega) c hc)).2.1) (by decide)]
    obtain ⟨e1, e2⟩ := parse_itoa_ok (n := p + 1) (by omega) (by omega)
    obtain ⟨e3, e4⟩ := parse_itoa_ok (n := p + n) (by omega) (by omega)
    have hc : Pn.parseE (Lib.itoa (p + 1)) = 0 ∧ Pn.parseE (Lib.itoa (p + n)) = 0 ∧ 1 ≤ Pn.parseV (Lib.itoa (p + 1)) ∧ Pn.parseV (Lib.itoa (p + 1)) < Pn.parseV (Lib.itoa (p + n)) := ⟨e2, e4, by rw [e1]; omega, by rw [e1, e3]; omega⟩
    simp only
    rw [if_pos hc, e1, e3]
    congr 2
    omega
theorem oneP_itoa {n : Int} (h : 0 ≤ n) (hb : n ≤ 2147483647) : oneP (Lib.itoa n) = some (n, 0) := by
  unfold oneP
  obtain ⟨e1, e2⟩ := parse_itoa_ok h hb
  rw [if_pos e2, e1]
/-- the numbers that a hunk without context says -/
def noA (p n : Int) : Int := if 0 < n then p + 1 else p
theorem cmd_back {c : Ch} (hn : numB c = true) (hA : c.A + c.AN ≤ 2147483647) (hB : c.B + c.BN ≤ 2147483647) : cmdP (cmdT c) = some (noA c.A c.AN, c.AN, noA c.B c.BN, c.BN) := by
  have h := (numB_iff c).1 hn
  unfold cmdT cmdP noA
  by_cases h1 : c.AN = 0
  · have hb : 0 < c.BN := by omega
    rw [if_pos h1, spB_app (fun x hx => (dig_facts (itoa_dig (by omega) x hx)).1) (by decide)]
    simp only [if_true]
    rw [if_neg (by decide), oneP_itoa (by omega) (by omega), lnsP_rng (by omega) (by omega) hB, h1, if_pos hb]
    rfl
  · have ha : 0 < c.AN := by omega
    rw [if_neg h1, if_pos ha]
    by_cases h2 : c.BN = 0
    · rw [if_pos h2, spB_app (fun x hx => (num_facts (rng_num (by omega) (by omega) x hx)).1) (by decide)]
      simp only [if_true]
      rw [if_neg (by decide), lnsP_rng (by omega) (by omega) hA, oneP_itoa (by omega) (by omega), h2]
      rfl
    · have hb : 0 < c.BN := by omega
      rw [if_neg h2, spB_app (fun x hx => (num_facts (rng_num (by omega) (by omega) x hx)).1) (by decide)]
      simp only
      rw [if_neg (by decide), if_neg (by decide), lnsP_rng (by omega) (by omega) hA, lnsP_rng (by omega) (by omega) hB, if_pos hb]
theorem cmd_bytes {c : Ch} (hn : numB c = true) : (∀ x ∈ cmdT c, x ≠ 10) ∧ ∃ y t, cmdT c = y :: t ∧ y ≠ 92 := by
  have h := (numB_iff c).1 hn
  have hd : ∀ (n : Int) (t : List UInt8), 0 ≤ n → ∃ y u, Lib.itoa n ++ t = y :: u ∧ y ≠ 92 := by
    intro n t h0
    cases hq : Lib.itoa n with
    | nil => exact absurd hq (itoa_ne h0)
    | cons y u =>
      refine ⟨y, u ++ t, rfl, ?_⟩
      exact (dig_facts (itoa_dig h0 y (by rw [hq]; simp))).2.2.2
  have hr : ∀ (p n : Int) (t : List UInt8), 0 ≤ p → ∃ y u, rngT p n ++ t = y :: u ∧ y ≠ 92 := by
    intro p n t h0
    unfold rngT
    split
    · exact hd _ _ (by omega)
    · rw [List.append_assoc]
      exact hd _ _ (by omega)
  unfold cmdT
  split
  · rename_i h1
    refine ⟨?_, hd _ _ (by omega)⟩
    intro x hx
    rcases List.mem_append.1 hx with hx | hx
    · exact (dig_facts (itoa_dig (by omega) x hx)).2.2.1
    · rcases List.mem_cons.1 hx with rfl | hx
      · decide
      · exact (num_facts (rng_num (by omega) (by omega) x hx)).2.1
  · split
    · refine ⟨?_, hr _ _ _ (by omega)⟩
      intro x hx
      rcases List.mem_append.1 hx with hx | hx
      · exact (num_facts (rng_num (by omega) (by omega) x hx)).2.1
      · rcases List.mem_cons.1 hx with rfl | hx
        · decide
        · exact (dig_facts (itoa_dig (by omega) x hx)).2.2.1
    · refine ⟨?_, hr _ _ _ (by omega)⟩
      intro x hx
      rcases List.mem_append.1 hx with hx | hx
      · exact (num_facts (rng_num (by omega) (by omega) x hx)).2.1
      · rcases List.mem_cons.1 hx with rfl | hx
        · decide
        · exact (num_facts (rng_num (by omega) (by omega) x hx)).2.1
/-- lines that all are lines, and have their line feed but for the last one -/
def Rows : List (List UInt8) → Prop
  | [] => True
  | x :: r => linB x = true ∧ (r ≠ [] → fdB x = true) ∧ Rows r
theorem lin_no {x : List UInt8} (h : linB x = true) : x ≠ [] ∧ ∀ c ∈ x.dropLast, c ≠ 10 := by
  unfold linB at h
  simp only [Bool.and_eq_true] at h
  refine ⟨?_, fun c hc => ?_⟩
  · rintro rfl
    simp at h
  · have := (List.all_eq_true.1 h.2) c hc
    simpa using this
theorem fd_form {x : List UInt8} (h : fdB x = true) : x = x.dropLast ++ [10] := by
  unfold fdB at h
  have h1 : x.getLast? = some 10 := by simpa using h
  obtain ⟨q, rfl⟩ := List.getLast?_eq_some_iff.1 h1
  simp
theorem fd_app {ah x : List UInt8} (h : fdB x = true) : fdB (ah ++ x) = true ∧ (ah ++ x).dropLast = ah ++ x.dropLast := by
  have e := fd_form h
  rw [e, ← List.append_assoc]
  refine ⟨fd_snoc _, ?_⟩
  simp
theorem rd_back (ah : List UInt8) (S : Int) (xs : List (List UInt8)) : ∀ (p : Nat) (rest : List (List UInt8)), Rows xs → pkM rest = false → ∃ p', rdN ah S xs.length p (xs.flatMap (lnL ah) ++ rest) = .ok (mks S xs, p', rest) := by
  induction xs with
  | nil => intro p rest _ _; exact ⟨p, rfl⟩
  | cons x xs ih =>
    intro p rest hR hp
    obtain ⟨h1, h2, h3⟩ := hR
    simp only [List.length_cons, rdN, List.flatMap_cons, List.append_assoc]
    cases hf : fdB x with
    | true =>
      have hl : lnL ah x = [ah ++ x] := by unfold lnL; rw [if_pos hf]
      obtain ⟨e1, e2⟩ := fd_app (ah := ah) hf
      have hm : mkd ah (xs.length == 0) p ([ah ++ x] ++ (xs.flatMap (lnL ah) ++ rest)) = .ok (x, p + 1, xs.flatMap (lnL ah) ++ rest) := by
        unfold mkd
        simp only [List.singleton_append, nxt, e1, if_true, e2]
        rw [if_pos (by simp), if_neg ?_]
        · simp only [List.drop_left]
          rw [← fd_form hf]
        · cases xs with
          | nil => simp [hp]
          | cons y ys => simp
      rw [hl, hm]
      obtain ⟨p', hq⟩ := ih (p + 1) rest h3 hp
      simp only [hq]
      exact ⟨p', rfl⟩
    | false =>
      have hx : xs = [] := by
        cases xs with
        | nil => rfl
        | cons y ys => have := h2 (by simp); rw [hf] at this; cases this
      subst hx
      have hl : lnL ah x = [ah ++ x ++ [10], markT] := by unfold lnL; rw [if_neg (by rw [hf]; decide)]
      have hm : mkd ah (([] : List (List UInt8)).length == 0) p ([ah ++ x ++ [10], markT] ++ (([] : List (List UInt8)).flatMap (lnL ah) ++ rest)) = .ok (x, p + 2, rest) := by
        unfold mkd
        simp only [List.cons_append, List.nil_append, nxt, fd_snoc, if_true, List.dropLast_concat]
        rw [if_pos (by simp), if_pos (by simp [pkM]), if_neg (by simp only [List.drop_left]; exact (lin_no h1).1)]
        simp
      rw [hl, hm]
      exact ⟨p + 2, rfl⟩
/-- behind old lines there is no mark -/
theorem pk_new {ah : List UInt8} {xs rest : List (List UInt8)} (ha : ah.head? = some 62) (hp : pkM rest = false) : pkM (xs.flatMap (lnL ah) ++ rest) = false := by
  cases xs with
  | nil => exact hp
  | cons x xs =>
    cases ah with
    | nil => cases ha
    | cons y ah =>
      simp only [List.head?_cons, Option.some.injEq] at ha
      subst ha
      rw [List.flatMap_cons, lnL]
      split <;> rfl
/-- a change is read as its hunk -/
theorem hk_back {a b : List (List UInt8)} {c : Ch} {k p : Nat} {rest : List (List UInt8)} (hn : numB c = true) (hA : c.A + c.AN ≤ 2147483647) (hB : c.B + c.BN ≤ 2147483647) (hAl : (cut a c.A c.AN).length = c.AN.toNat) (hBl : (cut b c.B c.BN).length = c.BN.toNat) (hRa : Rows (cut a c.A c.AN)) (hRb : Rows (cut b c.B c.BN)) (hk : k < 4096) (hp : pkM rest = false) : ∃ p', hkP k p (chgL a b c ++ rest) = .ok (⟨noA c.A c.AN, c.AN, noA c.B c.BN, c.BN, mks 45 (cut a c.A c.AN) ++ mks 43 (cut b c.B c.BN)⟩, p', rest) := by
  have hb := pk_new (ah := [62, 32]) (xs := cut b c.B c.BN) (rest := rest) (by decide) hp
  have hs : pkM (sepL c ++ ((cut b c.B c.BN).flatMap (lnL [62, 32]) ++ rest)) = false := by
    unfold sepL
    split
    · rfl
    · exact hb
  obtain ⟨p1, h1⟩ := rd_back [60, 32] 45 (cut a c.A c.AN) (p + 1) (sepL c ++ ((cut b c.B c.BN).flatMap (lnL [62, 32]) ++ rest)) hRa hs
  have h2 : ∃ p2, (if 0 < c.AN ∧ 0 < c.BN then sepP p1 (sepL c ++ ((cut b c.B c.BN).flatMap (lnL [62, 32]) ++ rest)) else .ok (p1, sepL c ++ ((cut b c.B c.BN).flatMap (lnL [62, 32]) ++ rest))) = .ok (p2, (cut b c.B c.BN).flatMap (lnL [62, 32]) ++ rest) := by
    unfold sepL
    by_cases hq : 0 < c.AN ∧ 0 < c.BN
    · rw [if_pos hq, if_pos hq]
      refine ⟨p1 + 1, ?_⟩
      unfold sepP
      rfl
    · rw [if_neg hq, if_neg hq]
      exact ⟨p1, rfl⟩
  obtain ⟨p2, h2⟩ := h2
  obtain ⟨p3, h3⟩ := rd_back [62, 32] 43 (cut b c.B c.BN) p2 rest hRb hp
  refine ⟨p3, ?_⟩
  rw [hAl] at h1
  rw [hBl] at h3
  unfold hkP chgL
  simp only [List.cons_append, nxt, fd_snoc, if_true, List.dropLast_concat, cmd_back hn hA hB, List.append_assoc]
  rw [if_neg (by omega)]
  simp only [h1, h2, h3]
end Go.Proofs.YtgcccpmcbjfaaaaDoor

/- The normal form of an edit script: read again it is the hunks without context; a part of it is never read as the whole; plain mathematics. -/
namespace Go.Proofs.YtgcccpmcbjfaaaaDoor
open Ln

theorem rows_of {a : List (List UInt8)} (h : checkB a = true) : Rows a := by
  induction a with
  | nil => trivial
  | cons s t ih =>
    simp only [checkB, Bool.and_eq_true] at h
    have h1 := h.1
    rw [lineB_eq] at h1
    simp only [Bool.and_eq_true, Bool.or_eq_true] at h1
    refine ⟨h1.1, fun hne => ?_, ih h.2⟩
    rcases h1.2 with h2 | h2
    · cases t with
      | nil => exact absurd rfl hne
      | cons => cases h2
    · exact h2
theorem rows_drop {a : List (List UInt8)} (n : Nat) (h : Rows a) : Rows (a.drop n) := by
  induction n generalizing a with
  | zero => exact h
  | succ n ih =>
    cases a with
    | nil => trivial
    | cons s t => exact ih h.2.2
theorem rows_take {a : List (List UInt8)} (n : Nat) (h : Rows a) : Rows (a.take n) := by
  induction n generalizing a with
  | zero => trivial
  | succ n ih =>
    cases a with
    | nil => trivial
    | cons s t =>
      refine ⟨h.1, fun hne => h.2.1 fun e => ?_, ih h.2.2⟩
      subst e
      simp at hne
theorem rows_cut {a : List (List UInt8)} (h : checkB a = true) (p n : Int) : Rows (cut a p n) := rows_take _ (rows_drop _ (rows_of h))
theorem rows_lin {a : List (List UInt8)} (h : Rows a) : ∀ x ∈ a, linB x = true := by
  induction a with
  | nil => intro x hx; cases hx
  | cons s t ih =>
    intro x hx
    rcases List.mem_cons.1 hx with rfl | hx
    · exact h.1
    · exact ih h.2.2 x hx
theorem npk_mks {no sg : Int} (t : List (List UInt8)) : pkL no (mks sg t) = if sg ≠ no ∧ okS sg = true then t else [] := by
  induction t with
  | nil => simp [mks, pkL]
  | cons s t ih =>
    have e : mks sg (s :: t) = ⟨sg, s⟩ :: mks sg t := rfl
    rw [e, pkL, ih]
    split <;> rfl
/-- the hunk of one change without context -/
theorem one_zero {a b : List (List UInt8)} {c : Ch} (hn : numB c = true) (hA : c.A + c.AN ≤ a.length) (hB : c.B + c.BN ≤ b.length) : oneH a b 0 [c] = ⟨noA c.A c.AN, c.AN, noA c.B c.BN, c.BN, mks 45 (cut a c.A c.AN) ++ mks 43 (cut b c.B c.BN)⟩ := by
  have h := (numB_iff c).1 hn
  have e : bodyH a b (min (a.length : Int) (c.A + c.AN + 0)) (c.A - min 0 c.A) [c] = mks 45 (cut a c.A c.AN) ++ mks 43 (cut b c.B c.BN) := by
    rw [show min (a.length : Int) (c.A + c.AN + 0) = c.A + c.AN by omega, show c.A - min 0 c.A = c.A by omega]
    simp only [bodyH]
    rw [show c.A - c.A = (0 : Int) by omega, show c.A + c.AN - (c.A + c.AN) = (0 : Int) by omega, cut_zero, cut_zero]
    simp [mks]
  have l1 : ((cut a c.A c.AN).length : Int) = c.AN := hcut_length (by omega) (by omega) hA
  have l2 : ((cut b c.B c.BN).length : Int) = c.BN := hcut_length (by omega) (by omega) hB
  have p1 : pkL 43 (mks 45 (cut a c.A c.AN) ++ mks 43 (cut b c.B c.BN)) = cut a c.A c.AN := by
    rw [pkL_append, npk_mks, npk_mks, if_pos (by decide), if_neg (by decide), List.append_nil]
  have p2 : pkL 45 (mks 45 (cut a c.A c.AN) ++ mks 43 (cut b c.B c.BN)) = cut b c.B c.BN := by
    rw [pkL_append, npk_mks, npk_mks, if_neg (by decide), if_pos (by decide), List.nil_append]
  show cntH (c.A - min 0 c.A) (c.B - min 0 c.A) (bodyH a b (min (a.length : Int) (c.A + c.AN + 0)) (c.A - min 0 c.A) [c]) = _
  rw [e]
  unfold cntH noA
  rw [p1, p2, l1, l2, show c.A - min 0 c.A = c.A by omega, show c.B - min 0 c.A = c.B by omega]
  have q1 : (0 < (cut a c.A c.AN).length) = (0 < c.AN) := propext ⟨fun q => by omega, fun q => by omega⟩
  have q2 : (0 < (cut b c.B c.BN).length) = (0 < c.BN) := propext ⟨fun q => by omega, fun q => by omega⟩
  simp only [q1, q2]
theorem right_mem {fl : Bool} {p q n m : Int} {l : List Ch} (h : Right fl p q n m l) : ∀ c ∈ l, numB c = true ∧ c.A + c.AN ≤ n ∧ c.B + c.BN ≤ m := by
  induction l generalizing fl p q with
  | nil => intro c hc; cases hc
  | cons x l ih =>
    intro c hc
    rcases List.mem_cons.1 hc with rfl | hc
    · exact ⟨h.1.1, h.2.le.1, h.2.le.2.1⟩
    · exact ih h.2 c hc
theorem mk_zero {l : List Ch} {a b : List (List UInt8)} (hs : Script l a.length b.length) : mkR l a b 0 = l.map fun c => oneH a b 0 [c] := by
  rw [(mkR_eq hs (by omega)).1, grp_zero l _ _ _ _ _ hs.2.2]
  simp
theorem pk_prt {l : List Ch} {a b : List (List UInt8)} (h : ∀ c ∈ l, numB c = true) : pkM (prtL l a b) = false := by
  cases l with
  | nil => rfl
  | cons c l =>
    obtain ⟨_, y, t, e, hy⟩ := cmd_bytes (h c (by simp))
    unfold prtL
    rw [List.flatMap_cons, chgL, e]
    simp only [List.cons_append, pkM, markT, List.isPrefixOf]
    have : ((92 : UInt8) == y) = false := by rw [beq_eq_false_iff_ne]; exact fun q => hy q.symm
    rw [this]
    rfl
/-- what was written is read again -/
theorem hks_back {a b : List (List UInt8)} (ha : checkB a = true) (hb : checkB b = true) (hal : a.length ≤ 2147483647) (hbl : b.length ≤ 2147483647) (l : List Ch) : ∀ (f k p : Nat), (∀ c ∈ l, numB c = true ∧ c.A + c.AN ≤ a.length ∧ c.B + c.BN ≤ b.length) → k + l.length ≤ 4096 → (prtL l a b).length ≤ f → hksP f k p (prtL l a b) = .ok (l.map fun c => oneH a b 0 [c]) := by
  induction l with
  | nil =>
    intro f k p _ _ _
    cases f <;> rfl
  | cons c l ih =>
    intro f k p h hk hf
    have hc := h c (by simp)
    have hn := (numB_iff c).1 hc.1
    have e : prtL (c :: l) a b = chgL a b c ++ prtL l a b := rfl
    rw [e] at hf ⊢
    have l1 : ((cut a c.A c.AN).length : Int) = c.AN := hcut_length (by omega) (by omega) hc.2.1
    have l2 : ((cut b c.B c.BN).length : Int) = c.BN := hcut_length (by omega) (by omega) hc.2.2
    obtain ⟨p', hh⟩ := hk_back (k := k) (p := p) (rest := prtL l a b) hc.1 (by omega) (by omega) (by omega) (by omega) (rows_cut ha c.A c.AN) (rows_cut hb c.B c.BN) (by simp at hk; omega) (pk_prt fun x hx => (h x (by simp [hx])).1)
    have hlen : 1 ≤ (chgL a b c).length := by simp [chgL]
    rw [List.length_append] at hf
    cases f with
    | zero => omega
    | succ f =>
      have hi := ih f (k + 1) p' (fun x hx => h x (by simp [hx])) (by simp at hk; omega) (by omega)
      simp only [hksP]
      rw [if_neg (by simp [chgL]), hh]
      simp only [hi]
      simp only [List.map_cons]
      rw [one_zero hc.1 hc.2.1 hc.2.2]
/-- all lines that are written have their line feed, at the end alone -/
def Fed (ls : List (List UInt8)) : Prop := ∀ s ∈ ls, ∃ t, s = t ++ [10] ∧ ∀ c ∈ t, c ≠ 10
theorem fed_check {ls : List (List UInt8)} (h : Fed ls) : checkB ls = true := by
  induction ls with
  | nil => rfl
  | cons s r ih =>
    obtain ⟨t, e, ht⟩ := h s (by simp)
    simp only [checkB, Bool.and_eq_true]
    refine ⟨?_, ih fun x hx => h x (by simp [hx])⟩
    rw [e]
    exact lineB_cut ht _
theorem fed_line {ah x : List UInt8} (ha : ∀ c ∈ ah, c ≠ 10) (hx : linB x = true) : Fed (lnL ah x) := by
  obtain ⟨h0, h1⟩ := lin_no hx
  unfold lnL
  split
  · rename_i hf
    intro s hs
    rw [List.mem_singleton.1 hs]
    refine ⟨ah ++ x.dropLast, ?_, ?_⟩
    · rw [List.append_assoc, ← fd_form hf]
    · intro c hc
      rcases List.mem_append.1 hc with hc | hc
      · exact ha c hc
      · exact h1 c hc
  · rename_i hf
    intro s hs
    rcases List.mem_cons.1 hs with rfl | hs
    · refine ⟨ah ++ x, rfl, ?_⟩
      intro c hc
      rcases List.mem_append.1 hc with hc | hc
      · exact ha c hc
      · intro e
        subst e
        rcases List.eq_nil_or_concat x with rfl | ⟨q, y, rfl⟩
        · cases hc
        · rw [List.concat_eq_append] at hc hf h1
          rcases List.mem_append.1 hc with hc | hc
          · exact h1 10 (by simpa using hc) rfl
          · have : y = 10 := (List.mem_singleton.1 hc).symm
            subst this
            exact hf (fd_snoc q)
    · rw [List.mem_singleton.1 hs]
      refine ⟨markT.dropLast, rfl, ?_⟩
      decide
theorem fed_prt {a b : List (List UInt8)} (ha : checkB a = true) (hb : checkB b = true) {l : List Ch} (h : ∀ c ∈ l, numB c = true) : Fed (prtL l a b) := by
  intro s hs
  obtain ⟨c, hc, hs⟩ := List.mem_flatMap.1 hs
  unfold chgL at hs
  rcases List.mem_cons.1 hs with rfl | hs
  · exact ⟨cmdT c, rfl, (cmd_bytes (h c hc)).1⟩
  · rcases List.mem_append.1 hs with hs | hs
    · obtain ⟨x, hx, hs⟩ := List.mem_flatMap.1 hs
      exact fed_line (by decide) (rows_lin (rows_cut ha c.A c.AN) x hx) s hs
    · rcases List.mem_append.1 hs with hs | hs
      · unfold sepL at hs
        split at hs
        · rw [List.mem_singleton.1 hs]
          exact ⟨[45, 45, 45], rfl, by decide⟩
        · cases hs
      · obtain ⟨x, hx, hs⟩ := List.mem_flatMap.1 hs
        exact fed_line (by decide) (rows_lin (rows_cut hb c.B c.BN) x hx) s hs
theorem split_prt {a b : List (List UInt8)} (ha : checkB a = true) (hb : checkB b = true) {l : List Ch} (h : ∀ c ∈ l, numB c = true) : splitL (prtT l a b) = prtL l a b := right_split _ (fed_check (fed_prt ha hb h))
/-- 12.3: what is written of right lines is read as the hunks without context -/
theorem normal_back {l : List Ch} {a b : List (List UInt8)} (hs : Script l a.length b.length) (ha : checkB a = true) (hb : checkB b = true) (hal : a.length ≤ 1000000) (hbl : b.length ≤ 1000000) (hl : l.length ≤ 4096) : prsT (prtT l a b) = if 1048576 < (prtT l a b).length then .error (0, 9) else .ok (mkR l a b 0) := by
  have hm := right_mem hs.2.2
  unfold prsT
  rw [split_prt ha hb fun c hc => (hm c hc).1, hks_back ha hb (by omega) (by omega) l _ 0 0 hm (by omega) (Nat.le_refl _), mk_zero hs]
/-- what was read had its line feeds -/
def Alf (c : List (List UInt8)) : Prop := ∀ s ∈ c, fdB s = true
theorem alf_app {x y : List (List UInt8)} (hx : Alf x) (hy : Alf y) : Alf (x ++ y) := fun s hs => (List.mem_append.1 hs).elim (hx s) (hy s)
theorem mark_fed {s : List UInt8} (hp : ∀ c ∈ s.dropLast, c ≠ 10) (h : markT.isPrefixOf s = true) : fdB s = true := by
  obtain ⟨t, rfl⟩ := List.isPrefixOf_iff_prefix.1 h
  cases t with
  | nil => rfl
  | cons x t =>
    exfalso
    refine hp 10 ?_ rfl
    rw [List.dropLast_append_of_ne_nil (by simp)]
    exact List.mem_append_left _ (by decide)
theorem nxt_fed {p : Nat} {ls r : List (List UInt8)} {s : List UInt8} (h : nxt p ls = .ok (s, r)) : ∃ c, ls = c ++ r ∧ Alf c := by
  refine ⟨[s ++ [10]], nxt_ok h, ?_⟩
  intro x hx
  rw [List.mem_singleton.1 hx]
  exact fd_snoc s
theorem mkd_fed {sg : List UInt8} {last : Bool} {p p1 : Nat} {ls r : List (List UInt8)} {t : List UInt8} (hP : Plain ls) (h : mkd sg last p ls = .ok (t, p1, r)) : ∃ c, ls = c ++ r ∧ Alf c := by
  unfold mkd at h
  split at h
  · cases h
  · rename_i s r0 hn
    obtain ⟨c, e, hc⟩ := nxt_fed hn
    split at h
    · split at h
      · rename_i hl
        split at h
        · cases h
        · cases h
          simp only [Bool.and_eq_true] at hl
          cases r0 with
          | nil => simp [pkM] at hl
          | cons y r0 =>
            refine ⟨c ++ [y], by rw [e]; simp, alf_app hc ?_⟩
            intro x hx
            rw [List.mem_singleton.1 hx]
            exact mark_fed (hP y (by rw [e]; simp)) hl.2
      · cases h
        exact ⟨c, e, hc⟩
    · cases h
theorem rdN_fed {sg : List UInt8} {S : Int} (n : Nat) : ∀ {p p1 : Nat} {ls r : List (List UInt8)} {l : List Mk}, Plain ls → rdN sg S n p ls = .ok (l, p1, r) → ∃ c, ls = c ++ r ∧ Alf c := by
  induction n with
  | zero =>
    intro p p1 ls r l hP h
    simp only [rdN] at h
    cases h
    exact ⟨[], rfl, fun s hs => by cases hs⟩
  | succ n ih =>
    intro p p1 ls r l hP h
    simp only [rdN] at h
    split at h
    · cases h
    · rename_i t q1 r1 hm
      obtain ⟨c1, e1, hc1⟩ := mkd_fed hP hm
      have hP1 := (mkd_ok hP hm).2.2.1
      split at h
      · cases h
      · rename_i l' q2 r2 hr
        obtain ⟨c2, e2, hc2⟩ := ih hP1 hr
        cases h
        exact ⟨c1 ++ c2, by rw [e1, e2]; simp, alf_app hc1 hc2⟩
theorem hkP_fed {k p p1 : Nat} {ls r : List (List UInt8)} {h : Hk} (hP : Plain ls) (hh : hkP k p ls = .ok (h, p1, r)) : ∃ c, ls = c ++ r ∧ Alf c := by
  unfold hkP at hh
  split at hh
  · cases hh
  · rename_i s r0 hn
    obtain ⟨c0, e0, hc0⟩ := nxt_fed hn
    have hP0 := (nxt_len hP hn).2
    split at hh
    · cases hh
    · rename_i A AN B BN hc
      split at hh
      · cases hh
      · split at hh
        · cases hh
        · rename_i l1 q1 r1 h1
          obtain ⟨c1, e1, hc1⟩ := rdN_fed _ hP0 h1
          have hP1 := (rdN_ok _ hP0 h1).2.2.2.1
          split at hh
          · cases hh
          · rename_i q2 r2 h2
            have hs : (∃ c, r1 = c ++ r2 ∧ Alf c) ∧ Plain r2 := (by
              split at h2
              · unfold sepP at h2
                split at h2
                · cases h2
                · rename_i s3 r3 hn3
                  split at h2
                  · cases h2
                    exact ⟨nxt_fed hn3, (nxt_len hP1 hn3).2⟩
                  · cases h2
              · cases h2
                exact ⟨⟨[], rfl, fun s hs => by cases hs⟩, hP1⟩)
            obtain ⟨⟨c2, e2, hc2⟩, hP2⟩ := hs
            split at hh
            · cases hh
            · rename_i l2 q3 r3 h3
              obtain ⟨c3, e3, hc3⟩ := rdN_fed _ hP2 h3
              cases hh
              exact ⟨c0 ++ (c1 ++ (c2 ++ c3)), by rw [e0, e1, e2, e3]; simp, alf_app hc0 (alf_app hc1 (alf_app hc2 hc3))⟩
theorem hksP_fed (f : Nat) : ∀ {k p : Nat} {ls : List (List UInt8)} {l : List Hk}, Plain ls → ls.length ≤ f → hksP f k p ls = .ok l → Alf ls := by
  induction f with
  | zero =>
    intro k p ls l hP hf h
    have : ls = [] := List.eq_nil_of_length_eq_zero (by omega)
    subst this
    intro s hs
    cases hs
  | succ f ih =>
    intro k p ls l hP hf h
    simp only [hksP] at h
    split at h
    · rename_i he
      subst he
      intro s hs
      cases hs
    · split at h
      · cases h
      · rename_i hk q1 r1 h1
        obtain ⟨a1, a2, a3⟩ := hkP_ok hP h1
        obtain ⟨c, e, hc⟩ := hkP_fed hP h1
        have hpos : 0 < hkC1 hk := by unfold hkC1; omega
        split at h
        · cases h
        · rename_i l' h2
          have := ih a3 (by omega) h2
          rw [e]
          exact alf_app hc this
/-- what is read ends with a line feed -/
theorem prs_feed {t : List UInt8} {l : List Hk} (h : prsT t = .ok l) : t = [] ∨ fdB t = true := by
  unfold prsT at h
  split at h
  · cases h
  · have hf := hksP_fed _ (split_plain t) (Nat.le_refl _) h
    have hj := split_join t
    cases hq : splitL t with
    | nil => left; exact split_nil hq
    | cons x r =>
      right
      rw [hq] at hj hf
      have hl : ∀ (x : List UInt8) (r : List (List UInt8)), Alf (x :: r) → fdB (x :: r).flatten = true := by
        intro x r
        induction r generalizing x with
        | nil =>
          intro h1
          have := h1 x (by simp)
          simpa using this
        | cons y r ih =>
          intro h1
          have := ih y fun s hs => h1 s (by simp [hs])
          rw [List.flatten_cons]
          exact (fd_app this).1
      rw [← hj]
      exact hl x r hf
theorem prs_count {t : List UInt8} {l : List Hk} (h : prsT t = .ok l) : hksC l = (splitL t).length := by
  unfold prsT at h
  split at h
  · cases h
  · exact hksP_ok _ (split_plain t) (Nat.le_refl _) h
/-- a part of what is written is never read as the whole -/
theorem normal_cut {s : List UInt8} {l : List Hk} (hw : prsT s = .ok l) {k : Nat} (hk : k < s.length) : prsT (s.take k) ≠ .ok l := by
  intro hp
  have c1 := prs_count hw
  have c2 := prs_count hp
  have f1 := prs_feed hw
  have f2 := prs_feed hp
  have g1 := split_count s
  have g2 := split_count (s.take k)
  have hfb : ∀ x : List UInt8, feedB x = fdB x := fun x => rfl
  have hs : s ≠ [] := by rintro rfl; simp at hk
  have e1 : (feedB s || s.isEmpty) = true := by
    rcases f1 with f1 | f1
    · exact absurd f1 hs
    · rw [hfb, f1]; rfl
  have e2 : (feedB (s.take k) || (s.take k).isEmpty) = true := by
    rcases f2 with f2 | f2
    · rw [f2]; rfl
    · rw [hfb, f2]; rfl
  rw [e1] at g1
  rw [e2] at g2
  simp only [if_true] at g1 g2
  have g3 : s.count 10 = (s.take k).count 10 + (s.drop k).count 10 := by
    rw [← List.count_append, List.take_append_drop]
  have g4 : 0 < (s.drop k).count 10 := by
    rw [List.count_pos_iff]
    rcases f1 with f1 | f1
    · exact absurd f1 hs
    · have h1 : s.getLast? = some 10 := by simpa [fdB] using f1
      have h2 : (s.drop k).getLast? = some 10 := by
        rw [List.getLast?_drop, if_neg (by omega), h1]
      exact List.mem_of_getLast? h2
  omega
end Go.Proofs.YtgcccpmcbjfaaaaDoor

/- What is read in the normal form are right hunks; plain mathematics. -/
namespace Go.Proofs.YtgcccpmcbjfaaaaDoor
open Ln

theorem sat_pos : ∀ (l : List UInt8) (n : Int), 0 ≤ n → l.all Pn.digB = true → 0 ≤ Pn.sat n l
  | [], _, hn, _ => hn
  | c :: t, n, hn, h => by
    simp only [List.all_cons, Bool.and_eq_true] at h
    have h1 := Pn.digB_out h.1
    rw [Pn.sat]
    exact sat_pos t _ (by omega) h.2
theorem prs_num {s : List UInt8} : 0 ≤ Pn.parseV s ∧ Pn.parseV s ≤ 2147483647 := by
  unfold Pn.parseV
  split
  · rename_i h
    exact ⟨sat_pos s 0 (by omega) (Pn.isNum_all h.1), h.2⟩
  · omega
theorem lns_right {s : List UInt8} {x n : Int} (h : lnsP s = some (x, n)) : 1 ≤ x ∧ x ≤ 2147483647 ∧ 1 ≤ n ∧ n ≤ 2147483647 := by
  unfold lnsP at h
  split at h
  · split at h
    · rename_i y _ z _ hc
      cases h
      have h1 := @prs_num y
      have h2 := @prs_num z
      omega
    · cases h
  · split at h
    · rename_i hc
      cases h
      have h1 := @prs_num s
      omega
    · cases h
theorem one_right {s : List UInt8} {x n : Int} (h : oneP s = some (x, n)) : 0 ≤ x ∧ x ≤ 2147483647 ∧ n = 0 := by
  unfold oneP at h
  split at h
  · cases h
    have h1 := @prs_num s
    omega
  · cases h
theorem cmd_right {s : List UInt8} {A AN B BN : Int} (h : cmdP s = some (A, AN, B, BN)) : (0 ≤ A ∧ A ≤ 2147483647 ∧ 0 ≤ AN ∧ AN ≤ 2147483647 ∧ (0 < AN → 1 ≤ A)) ∧ (0 ≤ B ∧ B ≤ 2147483647 ∧ 0 ≤ BN ∧ BN ≤ 2147483647 ∧ (0 < BN → 1 ≤ B)) ∧ (0 < AN ∨ 0 < BN) := by
  unfold cmdP at h
  split at h
  · cases h
  · rename_i x c y _
    split at h
    · rename_i A' AN' B' BN' h1 h2
      cases h
      by_cases hc : c = 97
      · subst hc
        rw [if_pos rfl] at h1
        rw [if_neg (by decide)] at h2
        have q1 := one_right h1
        have q2 := lns_right h2
        omega
      · rw [if_neg hc] at h1
        have q1 := lns_right h1
        by_cases hd : c = 100
        · subst hd
          rw [if_pos rfl] at h2
          have q2 := one_right h2
          omega
        · rw [if_neg hd] at h2
          have q2 := lns_right h2
          omega
    · cases h
theorem pk_out {no : Int} {l : List Mk} (h : ∀ m ∈ l, m.sg = no) : pkL no l = [] := by
  induction l with
  | nil => rfl
  | cons m l ih =>
    have hm := h m (by simp)
    simp only [pkL]
    rw [if_neg (fun hq => hq.1 hm)]
    exact ih fun x hx => h x (by simp [hx])
theorem pk_in {no s : Int} (hs : s ≠ no) (ho : okS s = true) {l : List Mk} (h : ∀ m ∈ l, m.sg = s) : (pkL no l).length = l.length := by
  induction l with
  | nil => rfl
  | cons m l ih =>
    have hm := h m (by simp)
    simp only [pkL]
    rw [if_pos (by rw [hm]; exact ⟨hs, ho⟩), List.length_cons, List.length_cons, ih fun x hx => h x (by simp [hx])]
theorem fld_last {S no : Int} (hS : okS S = true) (hn : (no = 43 ∧ S = 45) ∨ (no = 45 ∧ S = 43)) : ∀ (l r : List Mk), (∀ m ∈ l, m.sg = S ∧ linB m.tx = true) → (∀ m ∈ l.dropLast, fdB m.tx = true) → (∀ m ∈ r, m.sg = no) → fldB r = true → fldB (l ++ r) = true
  | [], _, _, _, _, hr => hr
  | [m], r, h1, _, h3, hr => by
    obtain ⟨a1, a2⟩ := h1 m (by simp)
    have h4 : lstB S r = true := (by
      unfold lstB
      rw [List.all_eq_true]
      intro x hx
      have := h3 x hx
      rw [this]
      rcases hn with ⟨rfl, rfl⟩ | ⟨rfl, rfl⟩ <;> decide)
    simp only [List.singleton_append, fldB, a1, a2, hS, hr, Bool.and_true, Bool.true_and]
    rcases hn with ⟨rfl, rfl⟩ | ⟨rfl, rfl⟩ <;> simp [h4]
  | m :: x :: l, r, h1, h2, h3, hr => by
    obtain ⟨a1, a2⟩ := h1 m (by simp)
    have h4 : fdB m.tx = true := h2 m (by simp [List.dropLast_cons_cons])
    have := fld_last hS hn (x :: l) r (fun y hy => h1 y (by simp at hy ⊢; exact Or.inr hy)) (fun y hy => h2 y (by rw [List.dropLast_cons_cons]; exact List.mem_cons_of_mem _ hy)) h3 hr
    rw [List.cons_append, fldB, this, a1, a2, hS, h4]
    rfl
/-- a hunk that was read is right -/
theorem hk_right {k p p1 : Nat} {ls r : List (List UInt8)} {h : Hk} (hP : Plain ls) (hh : hkP k p ls = .ok (h, p1, r)) : chkH h = 0 := by
  unfold hkP at hh
  split at hh
  · cases hh
  · rename_i s r0 hn
    obtain ⟨a1, a2⟩ := nxt_len hP hn
    split at hh
    · cases hh
    · rename_i A AN B BN hc
      have hr := cmd_right hc
      split at hh
      · cases hh
      · split at hh
        · cases hh
        · rename_i l1 q1 r1 h1
          obtain ⟨b1, b2, b3, b4, b5, b6⟩ := rdN_ok _ a2 h1
          split at hh
          · cases hh
          · rename_i q2 r2 h2
            have hs : Plain r2 := (by
              split at h2
              · unfold sepP at h2
                split at h2
                · cases h2
                · rename_i s3 r3 hn3
                  obtain ⟨c1, c2⟩ := nxt_len b4 hn3
                  split at h2
                  · cases h2
                    exact c2
                  · cases h2
              · cases h2
                exact b4)
            split at hh
            · cases hh
            · rename_i l2 q3 r3 h3
              obtain ⟨d1, d2, d3, d4, d5, d6⟩ := rdN_ok _ hs h3
              cases hh
              have e1 : rngB ⟨A, AN, B, BN, l1 ++ l2⟩ = true := (by
                simp only [rngB, nat31, Bool.and_eq_true, Bool.not_eq_true', Bool.and_eq_false_iff, decide_eq_true_eq, decide_eq_false_iff_not]
                omega)
              have e2 : fldB (l1 ++ l2) = true := (by
                have g := fld_last (S := 43) (no := 45) (by decide) (Or.inr ⟨rfl, rfl⟩) l2 [] d5 d6 (fun m hm => by cases hm) rfl
                rw [List.append_nil] at g
                exact fld_last (S := 45) (no := 43) (by decide) (Or.inl ⟨rfl, rfl⟩) l1 l2 b5 b6 (fun m hm => (d5 m hm).1) g)
              have e3 : (oldL ⟨A, AN, B, BN, l1 ++ l2⟩).length = l1.length := (by
                show (pkL 43 (l1 ++ l2)).length = _
                rw [pkL_append, List.length_append, pk_in (s := 45) (by decide) (by decide) (fun m hm => (b5 m hm).1), pk_out (fun m hm => (d5 m hm).1)]
                simp)
              have e4 : (newL ⟨A, AN, B, BN, l1 ++ l2⟩).length = l2.length := (by
                show (pkL 45 (l1 ++ l2)).length = _
                rw [pkL_append, List.length_append, pk_out (fun m hm => (b5 m hm).1), pk_in (s := 43) (by decide) (by decide) (fun m hm => (d5 m hm).1)]
                simp)
              have e5 : (l1 ++ l2).all (fun m => decide (m.sg = 32)) = false := (by
                rw [List.all_eq_false]
                rcases hr.2.2 with hq | hq
                · obtain ⟨x, hx⟩ := List.exists_mem_of_length_pos (l := l1) (by omega)
                  exact ⟨x, by simp [hx], by rw [(b5 x hx).1]; decide⟩
                · obtain ⟨x, hx⟩ := List.exists_mem_of_length_pos (l := l2) (by omega)
                  exact ⟨x, by simp [hx], by rw [(d5 x hx).1]; decide⟩)
              unfold chkH
              rw [if_neg (by rw [e1]; decide), if_neg (by rw [e2]; decide), if_neg (by rw [e3, e4]; simp only [b1, d1, not_or, Decidable.not_not]; omega), e5]
              rfl
/-- all hunks that were read are right -/
theorem hks_right (f : Nat) : ∀ {k p : Nat} {ls : List (List UInt8)} {l : List Hk}, Plain ls → hksP f k p ls = .ok l → ∀ h ∈ l, chkH h = 0 := by
  induction f with
  | zero =>
    intro k p ls l _ h
    simp only [hksP] at h
    cases h
    intro x hx
    cases hx
  | succ f ih =>
    intro k p ls l hP h
    simp only [hksP] at h
    split at h
    · cases h
      intro x hx
      cases hx
    · split at h
      · cases h
      · rename_i hk q1 r1 h1
        split at h
        · cases h
        · rename_i l' h2
          cases h
          intro x hx
          rcases List.mem_cons.1 hx with rfl | hx
          · exact hk_right hP h1
          · exact ih (hkP_ok hP h1).2.2 h2 x hx
theorem prs_right {t : List UInt8} {l : List Hk} (h : prsT t = .ok l) : ∀ x ∈ l, chkH x = 0 := by
  unfold prsT at h
  split at h
  · cases h
  · exact hks_right _ (split_plain t) h
end Go.Proofs.YtgcccpmcbjfaaaaDoor

/- The context form as texts and as lines: how it is written, how it is read; plain mathematics. -/
namespace Go.Proofs.YtgcccpmcbjfaaaaDoor
open Ln

/-- a patch -/
structure Pth where
  old : List UInt8
  new : List UInt8
  hs : List Hk

/-- /dev/null -/
def devN : List UInt8 := [47, 100, 101, 118, 47, 110, 117, 108, 108]
/-- a byte that stands for itself in a name -/
def nameC (c : UInt8) : Bool := decide (33 ≤ c.toNat ∧ c.toNat ≤ 126 ∧ c.toNat ≠ 34)
/-- a name as it stands in a patch -/
def nameT (s : List UInt8) : List UInt8 := if s = [] then devN else if s.all nameC = true ∧ s ≠ devN then s else Q.quote s
/-- the name that a text may stand for -/
def unN (s : List UInt8) : Option (List UInt8) := if s = devN then some [] else if s.head? = some 34 then (match Q.unquote s with | some (t, []) => some t | _ => none) else some s
/-- the name that stands in a patch -/
def namedP (s : List UInt8) : Option (List UInt8) := match unN s with
  | none => none
  | some n => if n.length ≤ 64 ∧ nameT n = s then some n else none

/-- a range of n lines behind the number p -/
def spanT (p n : Int) : List UInt8 := if n ≤ 1 then Lib.itoa p else Lib.itoa p ++ 44 :: Lib.itoa (p + n - 1)
/-- does the piece that a list begins within have a sign? -/
def anyS (sg : Int) : List Mk → Bool
  | [] => false
  | m :: l => if m.sg = 32 then false else decide (m.sg = sg) || anyS sg l
/-- the lines of a side; r, a: the piece has lines that are taken out, put in, so far -/
def sidL (sg : Int) : Bool → Bool → List Mk → List (List UInt8)
  | _, _, [] => []
  | r, a, m :: l => if m.sg = 32 then lnL [32, 32] m.tx ++ sidL sg false false l
    else if m.sg = sg then lnL (if ((r || anyS 45 (m :: l)) && (a || anyS 43 (m :: l))) = true then [33, 32] else [UInt8.ofNat sg.toNat, 32]) m.tx ++ sidL sg (r || decide (m.sg = 45)) (a || decide (m.sg = 43)) l
    else sidL sg (r || decide (m.sg = 45)) (a || decide (m.sg = 43)) l
/-- the lines of a side, nothing, if none of them is changed -/
def sideL (sg : Int) (l : List Mk) : List (List UInt8) := if (l.any fun m => decide (m.sg = sg)) = true then sidL sg false false l else []
def starsT : List UInt8 := [42, 42, 42, 42, 42, 42, 42, 42, 42, 42, 42, 42, 42, 42, 42]
/-- a line with a range -/
def rlT (e : UInt8) (p n : Int) : List UInt8 := [e, e, e, 32] ++ spanT p n ++ [32, e, e, e, e, 10]
/-- a hunk, as lines -/
def hkL (h : Hk) : List (List UInt8) := (starsT ++ [10]) :: rlT 42 h.A h.AN :: (sideL 45 h.ls ++ rlT 45 h.B h.BN :: sideL 43 h.ls)
/-- a patch, as lines -/
def ptL (p : Pth) : List (List UInt8) := if p.hs = [] then [] else ([42, 42, 42, 32] ++ nameT p.old ++ [10]) :: ([45, 45, 45, 32] ++ nameT p.new ++ [10]) :: p.hs.flatMap hkL
/-- what is wrong with a patch -/
def wrgP (p : Pth) : Int := if 64 < p.old.length ∨ 64 < p.new.length then 253 else if 4096 < p.hs.length then 9 else errs p.hs
/-- Print's text -/
def ptT (p : Pth) : List UInt8 := if wrgP p = 0 then (ptL p).flatten else []

/-- a line with a name -/
def namP (ah : List UInt8) (p : Nat) (ls : List (List UInt8)) : Except (Nat × Int) (List UInt8 × List (List UInt8)) :=
  match nxt p ls with
  | .error e => .error e
  | .ok (s, r) => if ah.isPrefixOf s = true then match namedP (s.drop 4) with
    | none => .error (p + 1, 253)
    | some n => .ok (n, r) else .error (p + 1, 3)
/-- a range: the number, how many (-1: one or none) -/
def rngI (s : List UInt8) : Option (Int × Int) := if Pn.parseE s = 0 then some (Pn.parseV s, -1) else lnsP s
/-- what stands between three bytes and a blank, a blank and four bytes -/
def innR (e : UInt8) (s : List UInt8) : Option (List UInt8) := if 9 ≤ s.length ∧ s.take 4 = [e, e, e, 32] ∧ s.drop (s.length - 5) = [32, e, e, e, e] then some ((s.drop 4).take (s.length - 9)) else none
/-- a line with a range -/
def rngP (e : UInt8) (p : Nat) (ls : List (List UInt8)) : Except (Nat × Int) ((Int × Int) × List (List UInt8)) :=
  match nxt p ls with
  | .error x => .error x
  | .ok (s, r) => match innR e s with
    | none => .error (p + 1, 3)
    | some t => match rngI t with
      | none => .error (p + 1, 3)
      | some q => .ok (q, r)
/-- a line of a side begins so -/
def isSd (sg : UInt8) : List UInt8 → Bool
  | a :: b :: _ => (a == 32 || a == sg || a == 33) && b == 32
  | _ => false
/-- the lines of a side: kinds and texts -/
def rdS (sg : UInt8) : Nat → List (List UInt8) → Except (Nat × Int) (List (UInt8 × List UInt8) × Nat × List (List UInt8))
  | p, [] => .ok ([], p, [])
  | p, s :: r => if isSd sg s = true then if fdB s = true then if pkM r = true ∧ 3 < s.length then .ok ([(s.headD 0, (s.drop 2).dropLast)], p + 2, r.tail) else match rdS sg (p + 1) r with
      | .error e => .error e
      | .ok (l, p2, r2) => .ok ((s.headD 0, s.drop 2) :: l, p2, r2)
    else .error (p + 1, 3) else .ok ([], p, s :: r)
abbrev Sde := List (UInt8 × List UInt8)
/-- the lines with two blanks -/
def keptS (x : Sde) : Sde := x.filter fun y => y.1 == 32
/-- is no line of a side changed? -/
def sameS (x : Sde) : Bool := x.all fun y => y.1 == 32
/-- the changed lines ahead, and what is behind them -/
def chgS (x : Sde) : Sde := x.takeWhile fun y => y.1 != 32
def rstS (x : Sde) : Sde := x.dropWhile fun y => y.1 != 32
def allS (k : UInt8) (x : Sde) : Bool := x.all fun y => y.1 == k
def okJ (x y : Sde) : Bool := if x ≠ [] ∧ y ≠ [] then allS 33 x && allS 33 y else allS 45 x && allS 43 y
def mkS (s : Int) (x : Sde) : List Mk := x.map fun y => ⟨s, y.2⟩
/-- both sides as one -/
def jnS : Nat → Sde → Sde → Option (List Mk)
  | 0, _, _ => none
  | f + 1, o, w => if okJ (chgS o) (chgS w) = true then match rstS o, rstS w with
      | [], [] => some (mkS 45 (chgS o) ++ mkS 43 (chgS w))
      | (_, s) :: o2, (_, t) :: w2 => if s = t then match jnS f o2 w2 with
        | none => none
        | some l => some (mkS 45 (chgS o) ++ (mkS 43 (chgS w) ++ ⟨32, s⟩ :: l)) else none
      | _, _ => none
    else none
/-- what a range says is other than there are lines -/
def cntS (n : Int) (x : Sde) : Bool := decide (n < 0 ∧ 1 < x.length ∨ 0 ≤ n ∧ n ≠ x.length)
def oldF (o w : Sde) : Sde := if o = [] then keptS w else o
def newF (o w : Sde) : Sde := if o ≠ [] ∧ w = [] then keptS o else w
/-- a hunk's lines are through: at the line of stars, the lines of both ranges -/
def finH (at0 ato atw : Nat) (po no pw nw : Int) (o w : Sde) : Except (Nat × Int) Hk :=
  if sameS o = true ∧ sameS w = true then .error (at0, 50) else
  if cntS no (oldF o w) = true then .error (ato, 120) else
  if cntS nw (newF o w) = true then .error (atw, 120) else
  if po = 0 ∧ oldF o w ≠ [] then .error (ato, 2) else
  if pw = 0 ∧ newF o w ≠ [] then .error (atw, 2) else
  match jnS ((oldF o w).length + 1) (oldF o w) (newF o w) with
  | none => .error (at0, 190)
  | some l => .ok ⟨po, (oldF o w).length, pw, (newF o w).length, l⟩
/-- is a line a line of stars? -/
def isSt (s : List UInt8) : Bool := starsT.isPrefixOf s && ((s.drop 15).isEmpty || (s.drop 15).head? == some 32)
/-- a hunk; so many are ahead of it -/
def cxH (k p : Nat) (ls : List (List UInt8)) : Except (Nat × Int) (Hk × Nat × List (List UInt8)) :=
  match nxt p ls with
  | .error e => .error e
  | .ok (s, r) => if isSt s = true then if 4096 ≤ k then .error (p + 1, 9) else match rngP 42 (p + 1) r with
    | .error e => .error e
    | .ok ((po, no), r1) => match rdS 45 (p + 2) r1 with
      | .error e => .error e
      | .ok (o, p2, r2) => match rngP 45 p2 r2 with
        | .error e => .error e
        | .ok ((pw, nw), r3) => match rdS 43 (p2 + 1) r3 with
          | .error e => .error e
          | .ok (w, p4, r4) => match finH (p + 1) (p + 2) (p2 + 1) po no pw nw o w with
            | .error e => .error e
            | .ok h => .ok (h, p4, r4)
    else .error (p + 1, 3)
/-- does the next line begin with stars? -/
def pkS : List (List UInt8) → Bool
  | [] => false
  | s :: _ => starsT.isPrefixOf s
/-- the hunks of a patch, by as many steps as there are lines -/
def cxHs : Nat → Nat → Nat → List (List UInt8) → Except (Nat × Int) (List Hk × Nat × List (List UInt8))
  | 0, _, p, _ => .error (p + 1, 1)
  | f + 1, k, p, ls => match cxH k p ls with
    | .error e => .error e
    | .ok (h, p1, r) => if pkS r = true then match cxHs f (k + 1) p1 r with
        | .error e => .error e
        | .ok (l, p2, r2) => .ok (h :: l, p2, r2)
      else .ok ([h], p1, r)
/-- all patches -/
def cxPs : Nat → Nat → Nat → List (List UInt8) → Except (Nat × Int) (List Pth)
  | 0, _, _, _ => .ok []
  | f + 1, k, p, ls => if ls = [] then .ok [] else match namP [42, 42, 42, 32] p ls with
    | .error e => .error e
    | .ok (n1, r1) => if 64 ≤ k then .error (p + 1, 9) else match namP [45, 45, 45, 32] (p + 1) r1 with
      | .error e => .error e
      | .ok (n2, r2) => match cxHs (r2.length + 1) 0 (p + 2) r2 with
        | .error e => .error e
        | .ok (hs, p3, r3) => match cxPs f (k + 1) p3 r3 with
          | .error e => .error e
          | .ok l => .ok (⟨n1, n2, hs⟩ :: l)
/-- a text is read -/
def cxT (t : List UInt8) : Except (Nat × Int) (List Pth) := if 1048576 < t.length then .error (0, 9) else cxPs (splitL t).length 0 0 (splitL t)

/- names -/
theorem quote_head (s : List UInt8) : (Q.quote s).head? = some 34 := by simp [Q.quote]
theorem quote_dev (s : List UInt8) : Q.quote s ≠ devN := by
  intro h
  have := congrArg List.head? h
  rw [quote_head] at this
  exact absurd this (by decide)
theorem name_un (n : List UInt8) : unN (nameT n) = some n := by
  unfold nameT
  split
  · rename_i h
    subst h
    rfl
  · split
    · rename_i h0 h
      unfold unN
      rw [if_neg h.2, if_neg ?_]
      cases n with
      | nil => exact absurd rfl h0
      | cons c t =>
        intro hq
        simp only [List.head?_cons, Option.some.injEq] at hq
        have := List.all_eq_true.1 h.1 c (by simp)
        rw [hq] at this
        exact absurd this (by decide)
    · unfold unN
      rw [if_neg (quote_dev n), if_pos (quote_head n)]
      have := unquote_back n []
      rw [List.append_nil] at this
      rw [this]
theorem named_iff (s n : List UInt8) : namedP s = some n ↔ s = nameT n ∧ n.length ≤ 64 := by
  constructor
  · intro h
    unfold namedP at h
    split at h
    · cases h
    · split at h
      · rename_i hq
        cases h
        exact ⟨hq.2.symm, hq.1⟩
      · cases h
  · rintro ⟨rfl, h⟩
    unfold namedP
    rw [name_un]
    show (if n.length ≤ 64 ∧ nameT n = nameT n then some n else none) = some n
    rw [if_pos ⟨h, rfl⟩]
theorem nameC_ne {c : UInt8} (h : nameC c = true) : c ≠ 10 := by
  intro e
  subst e
  exact absurd h (by decide)
theorem name_plain (n : List UInt8) : ∀ c ∈ nameT n, c ≠ 10 := by
  unfold nameT
  split
  · decide
  · split
    · rename_i h
      intro c hc
      exact nameC_ne (List.all_eq_true.1 h.1 c hc)
    · intro c hc e
      subst e
      have := (quote_print n 10 hc).1
      exact absurd this (by decide)

/- ranges -/
theorem span_plain {p n : Int} (hp : 0 ≤ p) : ∀ c ∈ spanT p n, numC c = true := by
  unfold spanT
  split
  · intro c hc
    simp [numC, itoa_dig hp c hc]
  · intro c hc
    rcases List.mem_append.1 hc with hc | hc
    · simp [numC, itoa_dig hp c hc]
    · rcases List.mem_cons.1 hc with rfl | hc
      · decide
      · simp [numC, itoa_dig (by omega) c hc]
/-- how many a range says -/
def sayN (n : Int) : Int := if n ≤ 1 then -1 else n
theorem not_num {x y : List UInt8} : Pn.parseE (x ++ 44 :: y) ≠ 0 := by
  have h : Pn.isNum (x ++ 44 :: y) = false := by
    refine Pn.isNum_bad x.length (by simp) ?_
    simp
  unfold Pn.parseE
  rw [if_neg (by rw [h]; decide)]
  decide
theorem span_back {p n : Int} (hp : 0 ≤ p) (h1 : 2 ≤ n → 1 ≤ p) (hb : p ≤ 2147483647) (h2 : 2 ≤ n → p + n - 1 ≤ 2147483647) : rngI (spanT p n) = some (p, sayN n) := by
  unfold spanT sayN rngI
  by_cases h : n ≤ 1
  · rw [if_pos h, if_pos h]
    obtain ⟨e1, e2⟩ := parse_itoa_ok hp hb
    rw [if_pos e2, e1]
  · rw [if_neg h, if_neg h, if_neg not_num]
    have := lnsP_rng (p := p - 1) (n := n) (by have := h1 (by omega); omega) (by omega) (by have := h2 (by omega); omega)
    unfold rngT at this
    rw [if_neg (by omega)] at this
    have e1 : p - 1 + 1 = p := by omega
    have e2 : p - 1 + n = p + n - 1 := by omega
    rw [e1, e2] at this
    exact this
theorem inn_back (e : UInt8) (t : List UInt8) : innR e ([e, e, e, 32] ++ t ++ [32, e, e, e, e]) = some t := by
  unfold innR
  have hl : ([e, e, e, 32] ++ t ++ [32, e, e, e, e]).length = t.length + 9 := by simp
  rw [if_pos]
  · rw [hl]
    simp
  · refine ⟨by omega, by simp, ?_⟩
    rw [hl]
    have : t.length + 9 - 5 = ([e, e, e, 32] ++ t).length := by simp
    rw [this, List.drop_left]
theorem rl_back {e : UInt8} (p : Nat) {q n : Int} (hp : 0 ≤ q) (h1 : 2 ≤ n → 1 ≤ q) (hb : q ≤ 2147483647) (h2 : 2 ≤ n → q + n - 1 ≤ 2147483647) (r : List (List UInt8)) : rngP e p (rlT e q n :: r) = .ok ((q, sayN n), r) := by
  have e1 : rlT e q n = ([e, e, e, 32] ++ spanT q n ++ [32, e, e, e, e]) ++ [10] := by simp [rlT]
  unfold rngP
  rw [e1]
  simp only [nxt, fd_snoc, if_true, List.dropLast_concat]
  rw [inn_back]
  simp only
  rw [span_back hp h1 hb h2]
end Go.Proofs.YtgcccpmcbjfaaaaDoor

/- Check of layer lines, walked at rows of texts; slices.ContainsFunc, walked at lines with signs. -/
namespace Go.Proofs.YtgcccpmcbjfaaaaDoor
open Ln Go.RowKit

set_option maxHeartbeats 1000000 in
theorem isLine_any (l : List UInt8) (last : Bool) (w : World) (hl : l.length ≤ 1099511627776) (r : Bool) (HR : Hid (lineB l last = r)) :
    Calls Tryd.prog 50 #[.string ⟨l.toArray⟩, .bool last] w fun e w' => e = .returned (.bool r) ∧ w = w' := by
  rcases Int.lt_or_le (Lib.indexByte l 10) 0 with hq | hq
  · obtain ⟨q1, q2⟩ := index_none hq
    have HE : Hid ((last && !l.isEmpty) = r) := (by show _ = _; rw [← HR.out]; exact (lineB_all q2 last).symm)
    clear hq q2 HR
    go_enter Tryd.func50, Tryd.ntmps50
    go_wp2_with fail
    refine (Tryd.strings_Index_one ⟨l.toArray⟩ 10 _).mono ?_
    rintro e w1 ⟨rfl, rfl⟩
    have hi2 : Lib.indexByte (⟨l.toArray⟩ : ByteArray).data.toList 10 = -1 := q1
    rw [hi2]
    cases last with
    | false =>
      go_wp2
      go_ret
      rw [← HE.out]
      exact ⟨rfl, rfl⟩
    | true =>
      cases l with
      | nil =>
        go_wp2
        go_ret
        rw [← HE.out]
        exact ⟨rfl, rfl⟩
      | cons c t =>
        go_wp2
        go_ret
        rw [← HE.out]
        exact ⟨rfl, rfl⟩
  · obtain ⟨a, b, he, hn, hi⟩ := index_some hq
    have HE : Hid (b.isEmpty = r) := (by
      show _ = _
      rw [← HR.out, he]
      exact (lineB_cut hn last).symm)
    have hlen : l.length = a.length + 1 + b.length := by rw [he]; simp; omega
    clear hn hq he HR
    go_enter Tryd.func50, Tryd.ntmps50
    go_wp2_with fail
    refine (Tryd.strings_Index_one ⟨l.toArray⟩ 10 _).mono ?_
    rintro e w1 ⟨rfl, rfl⟩
    have hi2 : Lib.indexByte (⟨l.toArray⟩ : ByteArray).data.toList 10 = a.length := hi
    rw [hi2]
    cases b with
    | nil =>
      have hb : ((a.length : Int) == (l.length : Int) - 1) = true := by simp at hlen; simp; omega
      clear hlen
      go_wp2
      go_ret
      rw [← HE.out]
      exact ⟨rfl, rfl⟩
    | cons c t =>
      have hb : ((a.length : Int) == (l.length : Int) - 1) = false := by simp at hlen; rw [beq_eq_false_iff_ne]; omega
      clear hlen
      go_wp2
      go_ret
      rw [← HE.out]
      exact ⟨rfl, rfl⟩

set_option maxHeartbeats 1000000 in
theorem hlCheck_f (v : Value) (ws : List (List UInt8)) (w : World) (hl : ws.length ≤ 1099511627776) (he : ∀ a ∈ ws, a.length ≤ 1099511627776) (hv : HS w v ws) (r : Bool) (HR : Hid (checkB ws = r)) (z : Int) (HZ : Hid (z = if r = true then 0 else 6)) :
    Calls Tryd.prog 36 #[v] w fun e w' => e = .returned (.int .i64 z) ∧ w = w' := by
  obtain ⟨ao, c, rfl⟩ := Holds.form hv
  have HL : Hid (∀ a ∈ ws, a.length ≤ 1099511627776) := he
  clear he
  go_enter Tryd.func36, Tryd.ntmps36
  go_wp2
  go_loopw [3, 4, 7] (fun _ _ i wr => ∃ k : Nat, k ≤ ws.length ∧ i = .int .i64 k ∧ wr = w ∧ Hid (checkB (ws.drop k) = r)) (fun _ _ i _ => ws.length - (intOf i).toNat)
  case atStart => exact ⟨0, Nat.zero_le _, rfl, rfl, HR⟩
  case round =>
    obtain ⟨k, hk, rfl, rfl, HI⟩ := hrel
    clear HR
    by_cases hlt : k < ws.length
    · obtain ⟨b, off, rfl, _, hc⟩ := HS.at hv (by omega)
      have d1 := hc k hlt
      have hxl := HL.out ws[k] (List.getElem_mem hlt)
      have i1 : 0 ≤ (k : Int) := by omega
      have i2 : (k : Int) < (ws.length : Int) := by omega
      have HM : (ws.drop (k + 1)).isEmpty = ((k : Int) == (ws.length : Int) - 1) := by
        rw [Bool.eq_iff_iff, List.isEmpty_iff, List.drop_eq_nil_iff, beq_iff_eq]; omega
      have HD : Hid ((lineB ws[k] (ws.drop (k + 1)).isEmpty && checkB (ws.drop (k + 1))) = r) := (by
        have h := HI.out
        rw [List.drop_eq_getElem_cons hlt] at h
        exact h)
      rw [HM] at HD
      generalize hq : ((k : Int) == (ws.length : Int) - 1) = q at *
      generalize ws[k] = x at *
      obtain ⟨r1, hr1⟩ : ∃ r1, lineB x q = r1 := ⟨_, rfl⟩
      have HR1 : Hid (lineB x q = r1) := hr1
      rw [hr1] at HD
      clear hr1 HI HM hc
      go_wp2_with fail
      refine (isLine_any x q _ hxl r1 HR1).mono ?_
      rintro e w1 ⟨rfl, rfl⟩
      cases r1 with
      | false =>
        have HZ2 : Hid (z = 6) := (by
          have h := HD.out
          rw [Bool.false_and] at h
          show _ = _
          rw [HZ.out, ← h]
          rfl)
        clear HZ
        go_wp2
        go_ret
        rw [HZ2.out]
        exact ⟨rfl, rfl⟩
      | true =>
        have HE : Hid (checkB (ws.drop (k + 1)) = r) := (by have h := HD.out; rw [Bool.true_and] at h; exact h)
        go_wp2
        go_roundw
        case rel => exact ⟨k + 1, by omega, by go_num, by trivial, HE⟩
        case measure => simp [intOf]; omega
    · have HZ2 : Hid (z = 0) := (by
        have h := HI.out
        rw [List.drop_of_length_le (by omega)] at h
        show _ = _
        rw [HZ.out, ← h]
        rfl)
      clear HZ HI
      have hend : decide ((k : Int) < (ws.length : Int)) = false := decide_eq_false (by omega)
      go_wp2
      go_ret
      rw [HZ2.out]
      exact ⟨rfl, rfl⟩

/-- slices.IndexFunc, slices.ContainsFunc: the function may lay blocks -/
theorem idx_any {l : List Mk} {p : Mk → Bool} {k : Nat} (hk : k < l.length) : (l.drop k).any p = (p l[k] || (l.drop (k + 1)).any p) := by
  rw [List.drop_eq_getElem_cons hk, List.any_cons]
set_option maxRecDepth 10000 in
set_option maxHeartbeats 2000000 in
theorem hIndexFunc_f (g : Nat) (l : List Mk) (p : Mk → Bool) (v : Value) (w : World) (hv : HMk w v l) (hl : l.length ≤ 1099511627776) (eg : ∀ args w, (callFunc g args).run Tryd.prog w = .ok (.enter g args) w)
    (hf : Hid (∀ m ∈ l, ∀ u : World, Calls Tryd.prog g (#[.agg #[.int .u8 m.sg, .string ⟨m.tx.toArray⟩]] ++ #[]) u fun e u' => e = .returned (.bool (p m)) ∧ Below u.heap.size u u')) (r : Bool) (HR : Hid (l.any p = r)) :
    Calls Tryd.prog 49 #[v, .func (.func g) #[] #[]] w fun e w' => ∃ z : Int, e = .returned (.int .i64 z) ∧ decide (0 ≤ z) = r ∧ Below w.heap.size w w' := by
  obtain ⟨lo, lc, rfl⟩ := HMk.form hv
  go_enter Tryd.func49, Tryd.ntmps49
  go_wp2
  go_loopw [5, 8] (fun _ i wr => ∃ k : Nat, k ≤ l.length ∧ i = .int .i64 k ∧ Below w.heap.size w wr ∧ Hid ((l.drop k).any p = r)) (fun _ i _ => l.length - (intOf i).toNat)
  case atStart => exact ⟨0, Nat.zero_le _, rfl, Below.refl _ _, HR⟩
  case round =>
    obtain ⟨k, hk, rfl, hB, HI⟩ := hrel
    clear HR
    by_cases hlt : k < l.length
    · obtain ⟨b, off, rfl, hb, _⟩ := HMk.at hv (by omega)
      obtain ⟨m, hm⟩ : ∃ m, l[k] = m := ⟨_, rfl⟩
      obtain ⟨c0, c1⟩ := Low.mk hB hv k hlt hm
      have hc := hf.out m (by rw [← hm]; exact List.getElem_mem hlt) wr
      have i1 : 0 ≤ (k : Int) := by omega
      have i2 : (k : Int) < (l.length : Int) := by omega
      have HI2 : Hid ((p m || (l.drop (k + 1)).any p) = r) := (by
        have h := HI.out
        rw [idx_any hlt, hm] at h
        exact h)
      obtain ⟨q, hq⟩ : ∃ q, p m = q := ⟨_, rfl⟩
      rw [hq] at hc HI2
      clear HI hm hq
      cases q with
      | true =>
        have HE : Hid (true = r) := (by have h := HI2.out; rw [Bool.true_or] at h; exact h)
        clear HI2
        go_wp2_with (go_at_fn g; refine hc.mono ?_; rintro e w' ⟨rfl, hB1⟩)
        go_ret
        exact ⟨_, rfl, by rw [← HE.out]; exact decide_eq_true (by omega), hB.trans (hB1.mono hB.size)⟩
      | false =>
        have HE : Hid ((l.drop (k + 1)).any p = r) := (by have h := HI2.out; rw [Bool.false_or] at h; exact h)
        clear HI2
        go_wp2_with (go_at_fn g; refine hc.mono ?_; rintro e w' ⟨rfl, hB1⟩)
        exact ⟨⟨k + 1, by omega, by go_num, hB.trans (hB1.mono hB.size), HE⟩, by simp [intOf]; omega⟩
    · have HE : Hid (false = r) := (by
        have h := HI.out
        rw [List.drop_of_length_le (by omega)] at h
        exact h)
      clear HI
      have hend : decide ((k : Int) < (l.length : Int)) = false := decide_eq_false (by omega)
      go_wp2
      go_ret
      exact ⟨_, rfl, HE.out, hB⟩
theorem hContains_f (g : Nat) (l : List Mk) (p : Mk → Bool) (v : Value) (w : World) (hv : HMk w v l) (hl : l.length ≤ 1099511627776) (eg : ∀ args w, (callFunc g args).run Tryd.prog w = .ok (.enter g args) w)
    (hf : Hid (∀ m ∈ l, ∀ u : World, Calls Tryd.prog g (#[.agg #[.int .u8 m.sg, .string ⟨m.tx.toArray⟩]] ++ #[]) u fun e u' => e = .returned (.bool (p m)) ∧ Below u.heap.size u u')) (r : Bool) (HR : Hid (l.any p = r)) :
    Calls Tryd.prog 34 #[v, .func (.func g) #[] #[]] w fun e w' => e = .returned (.bool r) ∧ Below w.heap.size w w' := by
  have HC := hIndexFunc_f g l p v w hv hl eg hf r HR
  obtain ⟨lo, lc, rfl⟩ := HMk.form hv
  go_enter Tryd.func34, Tryd.ntmps34
  go_wp2_with fail
  refine HC.mono ?_
  rintro e w1 ⟨z, rfl, hz, hB⟩
  go_wp2
  go_ret
  exact ⟨rfl, hB⟩
end Go.Proofs.YtgcccpmcbjfaaaaDoor

/- The context form: a hunk's sides are read as they were written; plain mathematics. -/
namespace Go.Proofs.YtgcccpmcbjfaaaaDoor
open Ln

/-- the kind that a changed line has -/
def kdS (sg : Int) (b : Bool) : UInt8 := if b = true then 33 else UInt8.ofNat sg.toNat
/-- the lines of a side, with their kinds -/
def sdK (sg : Int) : Bool → Bool → List Mk → Sde
  | _, _, [] => []
  | r, a, m :: l => if m.sg = 32 then (32, m.tx) :: sdK sg false false l
    else if m.sg = sg then (kdS sg ((r || anyS 45 (m :: l)) && (a || anyS 43 (m :: l))), m.tx) :: sdK sg (r || decide (m.sg = 45)) (a || decide (m.sg = 43)) l
    else sdK sg (r || decide (m.sg = 45)) (a || decide (m.sg = 43)) l
/-- a side, as lines -/
def sdL (x : Sde) : List (List UInt8) := x.flatMap fun y => lnL [y.1, 32] y.2
theorem sid_sd (sg : Int) (l : List Mk) : ∀ r a, sidL sg r a l = sdL (sdK sg r a l) := by
  induction l with
  | nil => intro r a; rfl
  | cons m l ih =>
    intro r a
    simp only [sidL, sdK]
    split
    · rw [ih]; rfl
    · split
      · rw [ih]
        simp only [sdL, List.flatMap_cons, kdS]
        split <;> rfl
      · exact ih _ _
theorem sd_texts {sg no : Int} (hs : sg = 45 ∧ no = 43 ∨ sg = 43 ∧ no = 45) (l : List Mk) (hl : ∀ m ∈ l, okS m.sg = true) : ∀ r a, (sdK sg r a l).map (·.2) = pkL no l := by
  induction l with
  | nil => intro r a; rfl
  | cons m l ih =>
    intro r a
    have hi := ih fun x hx => hl x (by simp [hx])
    have hm := hl m (by simp)
    have hc : m.sg = 32 ∨ m.sg = 45 ∨ m.sg = 43 := by simp [okS] at hm; omega
    simp only [sdK, pkL]
    by_cases h1 : m.sg = 32
    · rw [if_pos h1, if_pos ⟨by omega, hm⟩, List.map_cons, hi]
    · rw [if_neg h1]
      by_cases h2 : m.sg = sg
      · rw [if_pos h2, if_pos ⟨by omega, hm⟩, List.map_cons, hi]
      · rw [if_neg h2, if_neg (fun q => q.1 (by omega)), hi]
theorem sd_kinds {sg : Int} (l : List Mk) : ∀ r a, ∀ y ∈ sdK sg r a l, y.1 = 32 ∨ y.1 = UInt8.ofNat sg.toNat ∨ y.1 = 33 := by
  induction l with
  | nil => intro r a y hy; cases hy
  | cons m l ih =>
    intro r a y hy
    simp only [sdK] at hy
    split at hy
    · rcases List.mem_cons.1 hy with rfl | hy
      · exact .inl rfl
      · exact ih _ _ y hy
    · split at hy
      · rcases List.mem_cons.1 hy with rfl | hy
        · simp only [kdS]
          split
          · exact .inr (.inr rfl)
          · exact .inr (.inl rfl)
        · exact ih _ _ y hy
      · exact ih _ _ y hy
/-- what may stand behind a side -/
def Beh (sg : UInt8) (rest : List (List UInt8)) : Prop := pkM rest = false ∧ ∀ s r, rest = s :: r → isSd sg s = false
theorem pkM_first {s : List UInt8} {r : List (List UInt8)} {c : UInt8} {t : List UInt8} (h : s = c :: t) (hc : c ≠ 92) : pkM (s :: r) = false := by
  subst h
  simp only [pkM, markT, List.isPrefixOf, Bool.and_eq_false_iff]
  exact .inl (by simpa using fun q => hc q.symm)
theorem sdL_first {x : Sde} {rest : List (List UInt8)} (hx : ∀ y ∈ x, y.1 ≠ 92) (hr : pkM rest = false) : pkM (sdL x ++ rest) = false := by
  cases x with
  | nil => exact hr
  | cons y x =>
    have h := hx y (by simp)
    simp only [sdL, List.flatMap_cons, lnL]
    split
    · exact pkM_first rfl h
    · exact pkM_first rfl h
theorem rd_side {sg : UInt8} (hsg : sg ≠ 92) (x : Sde) : ∀ (p : Nat) (rest : List (List UInt8)), (∀ y ∈ x, (y.1 = 32 ∨ y.1 = sg ∨ y.1 = 33) ∧ linB y.2 = true) → abl (x.map (·.2)) = true → Beh sg rest → rdS sg p (sdL x ++ rest) = .ok (x, p + (sdL x).length, rest) := by
  induction x with
  | nil =>
    intro p rest _ _ hb
    cases rest with
    | nil => rfl
    | cons s r =>
      simp only [sdL, List.flatMap_nil, List.nil_append, rdS]
      rw [if_neg (by rw [hb.2 s r rfl]; decide)]
      rfl
  | cons y x ih =>
    intro p rest hx ha hb
    obtain ⟨hy, hlin⟩ := hx y (by simp)
    have hk92 : ∀ z ∈ x, z.1 ≠ 92 := by
      intro z hz e
      rcases (hx z (by simp [hz])).1 with h | h | h
      · rw [h] at e; exact absurd e (by decide)
      · rw [h] at e; exact hsg e
      · rw [h] at e; exact absurd e (by decide)
    have hne : y.2 ≠ [] := by
      intro e
      rw [e] at hlin
      exact absurd hlin (by decide)
    have hsd : ∀ t : List UInt8, isSd sg (y.1 :: 32 :: t) = true := by
      intro t
      simp only [isSd, Bool.and_eq_true, Bool.or_eq_true, beq_iff_eq]
      exact ⟨by rcases hy with h | h | h <;> simp [h], trivial⟩
    simp only [List.map_cons, abl, Bool.and_eq_true, Bool.or_eq_true] at ha
    by_cases hf : fdB y.2 = true
    · have e1 : sdL (y :: x) ++ rest = (y.1 :: 32 :: y.2) :: (sdL x ++ rest) := by
        simp [sdL, lnL, hf]
      have e2 : (sdL (y :: x)).length = 1 + (sdL x).length := by
        simp only [sdL, List.flatMap_cons, List.length_append]
        rw [lnL, if_pos hf]
        rfl
      have hfs : fdB (y.1 :: 32 :: y.2) = true := by
        unfold fdB at hf ⊢
        have : (y.1 :: 32 :: y.2).getLast? = y.2.getLast? := by
          cases hq : y.2 with
          | nil => exact absurd hq hne
          | cons c t => simp [List.getLast?_cons_cons]
        rw [this]
        exact hf
      rw [e1, e2]
      simp only [rdS]
      rw [if_pos (hsd _), if_pos hfs, if_neg (fun q => by rw [sdL_first hk92 hb.1] at q; exact absurd q.1 (by decide)), ih (p + 1) rest (fun z hz => hx z (by simp [hz])) ha.2 hb]
      simp only [List.headD_cons, List.drop_succ_cons, List.drop_zero]
      congr 3
      omega
    · have hx0 : x = [] := by
        rcases ha.1 with h | h
        · simpa using h
        · exact absurd h hf
      subst hx0
      have e1 : sdL [y] ++ rest = (y.1 :: 32 :: (y.2 ++ [10])) :: markT :: rest := by
        simp [sdL, lnL, hf]
      have e2 : (sdL [y]).length = 2 := by
        simp [sdL, lnL, hf]
      have hfs : fdB (y.1 :: 32 :: (y.2 ++ [10])) = true := fd_snoc (y.1 :: 32 :: y.2)
      have hl : 0 < y.2.length := List.length_pos_iff.2 hne
      rw [e1, e2]
      simp only [rdS]
      rw [if_pos (hsd _), if_pos hfs, if_pos ⟨by simp [pkM], by simp only [List.length_cons, List.length_append]; omega⟩]
      simp
theorem any_app {sg : Int} {R : List Mk} {s : Int} (hs : s ≠ 32) (hR : AllS s R) (t : List Mk) : anyS sg (R ++ t) = (decide (R ≠ [] ∧ s = sg) || anyS sg t) := by
  induction R with
  | nil => simp
  | cons m R ih =>
    have hm := hR m (by simp)
    have hi := ih fun x hx => hR x (by simp [hx])
    simp only [List.cons_append, anyS]
    rw [if_neg (by omega), hi, hm]
    by_cases h : s = sg <;> simp [h]
end Go.Proofs.YtgcccpmcbjfaaaaDoor

/- The context form: both sides of a hunk are laid into one list again; a hunk is read as it was written; plain mathematics. -/
namespace Go.Proofs.YtgcccpmcbjfaaaaDoor
open Ln

/-- a piece's end: nothing, or a line that is kept -/
def Pe (t : List Mk) : Prop := t = [] ∨ ∃ m r, t = m :: r ∧ m.sg = 32
theorem any_pe {sg : Int} {t : List Mk} (h : Pe t) : anyS sg t = false := by
  rcases h with rfl | ⟨m, r, rfl, hm⟩
  · rfl
  · simp [anyS, hm]
theorem sdK_in {sg no : Int} (hs : sg = 45 ∧ no = 43 ∨ sg = 43 ∧ no = 45) {R : List Mk} (hR : AllS sg R) (t : List Mk) : ∀ r a, sdK sg r a (R ++ t) = R.map (fun m => (kdS sg (if sg = 45 then a || anyS 43 t else r || anyS 45 t), m.tx)) ++ sdK sg (r || decide (R ≠ [] ∧ sg = 45)) (a || decide (R ≠ [] ∧ sg = 43)) t := by
  induction R with
  | nil => intro r a; simp
  | cons m R ih =>
    intro r a
    have hm := hR m (by simp)
    have hR2 : AllS sg R := fun x hx => hR x (by simp [hx])
    have hi := ih hR2
    simp only [List.cons_append, sdK, List.map_cons]
    rw [if_neg (by omega), if_pos hm, hi]
    have h1 : anyS sg (m :: (R ++ t)) = true := by
      simp only [anyS]
      rw [if_neg (by omega)]
      simp [hm]
    have h2 : anyS no (m :: (R ++ t)) = anyS no t := by
      simp only [anyS]
      rw [if_neg (by omega), any_app (by omega) hR2]
      have e1 : decide (m.sg = no) = false := decide_eq_false (by omega)
      have e2 : decide (R ≠ [] ∧ sg = no) = false := decide_eq_false (by omega)
      rw [e1, e2]
      simp
    rcases hs with ⟨rfl, rfl⟩ | ⟨rfl, rfl⟩
    · rw [h1, h2, hm]
      cases r <;> cases a <;> simp
    · rw [h1, h2, hm]
      cases r <;> cases a <;> simp
theorem sdK_out {sg no : Int} (hs : sg = 45 ∧ no = 43 ∨ sg = 43 ∧ no = 45) {R : List Mk} (hR : AllS no R) (t : List Mk) : ∀ r a, sdK sg r a (R ++ t) = sdK sg (r || decide (R ≠ [] ∧ no = 45)) (a || decide (R ≠ [] ∧ no = 43)) t := by
  induction R with
  | nil => intro r a; simp
  | cons m R ih =>
    intro r a
    have hm := hR m (by simp)
    have hi := ih fun x hx => hR x (by simp [hx])
    simp only [List.cons_append, sdK]
    rw [if_neg (by omega), if_neg (by omega), hi, hm]
    rcases hs with ⟨rfl, rfl⟩ | ⟨rfl, rfl⟩
    · cases r <;> cases a <;> simp
    · cases r <;> cases a <;> simp
theorem sdK_pe {sg : Int} {t : List Mk} (h : Pe t) (r a : Bool) : sdK sg r a t = sdK sg false false t := by
  rcases h with rfl | ⟨m, u, rfl, hm⟩
  · rfl
  · simp [sdK, hm]
theorem chg_app {X Y : Sde} (hX : ∀ y ∈ X, y.1 ≠ 32) (hY : Y = [] ∨ ∃ s Z, Y = (32, s) :: Z) : chgS (X ++ Y) = X ∧ rstS (X ++ Y) = Y := by
  induction X with
  | nil =>
    rcases hY with rfl | ⟨s, Z, rfl⟩
    · exact ⟨rfl, rfl⟩
    · exact ⟨by simp [chgS], by simp [rstS]⟩
  | cons y X ih =>
    have h := hX y (by simp)
    obtain ⟨i1, i2⟩ := ih fun z hz => hX z (by simp [hz])
    have hb : (y.1 != 32) = true := by simpa using h
    constructor
    · simp only [chgS, List.cons_append, List.takeWhile_cons, hb, if_true]
      exact congrArg _ i1
    · simp only [rstS, List.cons_append, List.dropWhile_cons, hb, if_true]
      exact i2
theorem mkS_map {s : Int} {R : List Mk} (h : AllS s R) (k : UInt8) : mkS s (R.map fun m => (k, m.tx)) = R := by
  induction R with
  | nil => rfl
  | cons m R ih =>
    have hm := h m (by simp)
    have hi := ih fun x hx => h x (by simp [hx])
    simp only [mkS, List.map_cons, List.map_map] at hi ⊢
    rw [hi]
    cases m
    simp only at hm
    rw [hm]
theorem kds_ne {sg : Int} (hs : sg = 45 ∨ sg = 43) (b : Bool) : kdS sg b ≠ 32 := by
  rcases hs with rfl | rfl <;> cases b <;> decide
theorem okJ_map (R A : List Mk) : okJ (R.map fun m => (kdS 45 (decide (A ≠ [])), m.tx)) (A.map fun m => (kdS 43 (decide (R ≠ [])), m.tx)) = true := by
  unfold okJ
  cases R with
  | nil =>
    cases A with
    | nil => rfl
    | cons b A =>
      rw [if_neg (by simp)]
      simp [allS, kdS]
  | cons m R =>
    cases A with
    | nil =>
      rw [if_neg (by simp)]
      simp [allS, kdS]
    | cons b A =>
      rw [if_pos (by simp)]
      simp [allS, kdS]
/-- both sides of lines in order are these lines again -/
theorem jn_back (n : Nat) : ∀ (l : List Mk) (f : Nat), l.length ≤ n → Nf false l → (∀ m ∈ l, okS m.sg = true) → (sdK 45 false false l).length < f → jnS f (sdK 45 false false l) (sdK 43 false false l) = some l := by
  induction n with
  | zero =>
    intro l f hn _ _ hf
    have : l = [] := List.length_eq_zero_iff.1 (by omega)
    subst this
    cases f with
    | zero => exact absurd hf (by omega)
    | succ f => rfl
  | succ n ih =>
    intro l f hn hN ho hf
    obtain ⟨R, A, t, rfl, hR, hA, ht⟩ := nf_false hN
    have hP : Pe t := by
      rcases ht with h | ⟨m, r, h, h1, h2, _⟩
      · exact .inl h
      · refine .inr ⟨m, r, h, ?_⟩
        have := ho m (by simp [h])
        simp [okS] at this
        omega
    have e1 : sdK 45 false false (R ++ (A ++ t)) = R.map (fun m => (kdS 45 (decide (A ≠ [])), m.tx)) ++ sdK 45 false false t := by
      rw [sdK_in (.inl ⟨rfl, rfl⟩) hR, sdK_out (.inl ⟨rfl, rfl⟩) hA, sdK_pe hP, any_app (by omega) hA, any_pe hP]
      simp
    have e2 : sdK 43 false false (R ++ (A ++ t)) = A.map (fun m => (kdS 43 (decide (R ≠ [])), m.tx)) ++ sdK 43 false false t := by
      rw [sdK_out (.inr ⟨rfl, rfl⟩) hR, sdK_in (.inr ⟨rfl, rfl⟩) hA, sdK_pe hP]
      simp [any_pe hP]
    have hX : ∀ y ∈ R.map (fun m => (kdS 45 (decide (A ≠ [])), m.tx)), y.1 ≠ 32 := by
      intro y hy
      obtain ⟨m, _, rfl⟩ := List.mem_map.1 hy
      exact kds_ne (.inl rfl) _
    have hY : ∀ y ∈ A.map (fun m => (kdS 43 (decide (R ≠ [])), m.tx)), y.1 ≠ 32 := by
      intro y hy
      obtain ⟨m, _, rfl⟩ := List.mem_map.1 hy
      exact kds_ne (.inr rfl) _
    cases f with
    | zero => exact absurd hf (by omega)
    | succ f =>
      rw [e1, e2]
      rw [e1] at hf
      rcases ht with rfl | ⟨m, r, rfl, h1, h2, hNr⟩
      · obtain ⟨c1, c2⟩ := chg_app hX (.inl rfl : ([] : Sde) = [] ∨ _)
        obtain ⟨c3, c4⟩ := chg_app hY (.inl rfl : ([] : Sde) = [] ∨ _)
        simp only [sdK]
        rw [jnS, c1, c3, okJ_map, if_pos rfl, c2, c4]
        simp only
        rw [mkS_map hR, mkS_map hA]
        simp
      · have hm : m.sg = 32 := by
          have := ho m (by simp)
          simp [okS] at this
          omega
        have s1 : ∀ sg, sdK sg false false (m :: r) = (32, m.tx) :: sdK sg false false r := by
          intro sg
          simp [sdK, hm]
        rw [s1, s1]
        rw [s1] at hf
        obtain ⟨c1, c2⟩ := chg_app hX (.inr ⟨m.tx, sdK 45 false false r, rfl⟩)
        obtain ⟨c3, c4⟩ := chg_app hY (.inr ⟨m.tx, sdK 43 false false r, rfl⟩)
        rw [jnS, c1, c3, okJ_map, if_pos rfl, c2, c4]
        simp only [if_true]
        simp only [List.length_append, List.length_cons] at hn hf
        rw [ih r f (by omega) hNr (fun x hx => ho x (by simp [hx])) (by omega)]
        simp only
        rw [mkS_map hR, mkS_map hA]
        cases m
        simp only at hm
        rw [hm]
/-- the lines that are kept, where a side is not changed -/
theorem kept_sd {sg no : Int} (hs : sg = 45 ∧ no = 43 ∨ sg = 43 ∧ no = 45) (l : List Mk) (ho : ∀ m ∈ l, okS m.sg = true) (hn : (l.any fun m => decide (m.sg = sg)) = false) : ∀ r a r2 a2, keptS (sdK no r a l) = sdK sg r2 a2 l := by
  induction l with
  | nil => intro r a r2 a2; rfl
  | cons m l ih =>
    intro r a r2 a2
    simp only [List.any_cons, Bool.or_eq_false_iff, decide_eq_false_iff_not] at hn
    have hi := ih (fun x hx => ho x (by simp [hx])) hn.2
    have hm := ho m (by simp)
    have hc : m.sg = 32 ∨ m.sg = 45 ∨ m.sg = 43 := by simp [okS] at hm; omega
    simp only [sdK]
    by_cases h1 : m.sg = 32
    · rw [if_pos h1, if_pos h1]
      have := hi false false false false
      simp only [keptS] at this ⊢
      rw [List.filter_cons_of_pos (by rfl), this]
    · rw [if_neg h1, if_neg h1, if_pos (by omega : m.sg = no), if_neg hn.1]
      have hk := kds_ne (sg := no) (by omega) ((r || anyS 45 (m :: l)) && (a || anyS 43 (m :: l)))
      have := hi (r || decide (m.sg = 45)) (a || decide (m.sg = 43)) (r2 || decide (m.sg = 45)) (a2 || decide (m.sg = 43))
      simp only [keptS] at this ⊢
      rw [List.filter_cons_of_neg (by simpa using hk), this]
theorem sd_any {sg : Int} (l : List Mk) (hs : sg = 45 ∨ sg = 43) : ∀ r a, sameS (sdK sg r a l) = !(l.any fun m => decide (m.sg = sg)) := by
  induction l with
  | nil => intro r a; rfl
  | cons m l ih =>
    intro r a
    simp only [sdK, List.any_cons]
    by_cases h1 : m.sg = 32
    · have : decide (m.sg = sg) = false := decide_eq_false (by omega)
      rw [if_pos h1, this]
      have := ih false false
      simp only [sameS] at this ⊢
      simp [this]
    · rw [if_neg h1]
      by_cases h2 : m.sg = sg
      · have hk := kds_ne hs ((r || anyS 45 (m :: l)) && (a || anyS 43 (m :: l)))
        rw [if_pos h2, decide_eq_true h2]
        simp only [sameS, List.all_cons]
        have : (kdS sg ((r || anyS 45 (m :: l)) && (a || anyS 43 (m :: l))) == 32) = false := by simpa using hk
        rw [this]
        rfl
      · rw [if_neg h2, decide_eq_false h2]
        have := ih (r || decide (m.sg = 45)) (a || decide (m.sg = 43))
        rw [this]
        simp
end Go.Proofs.YtgcccpmcbjfaaaaDoor
