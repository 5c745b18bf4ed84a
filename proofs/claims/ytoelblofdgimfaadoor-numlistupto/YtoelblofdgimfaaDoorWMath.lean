/-
  Plain facts: the words of a line.
-/
import Derived.Test.YtoelblofdgimfaaDoorMath
import Derived.Test.YtoelblofdgimfaaDoorDecMath
import Derived.Lib.SlTrimSet
namespace Go.Proofs.YtoelblofdgimfaaDoor
open Q

/-- a line without the blanks and tabs at its front -/
def wtrim (l : List UInt8) : List UInt8 := l.dropWhile blankB

theorem wtrim_eq (l : List UInt8) : Lib.trimLeftS l [32, 9] = wtrim l := by
  unfold Lib.trimLeftS wtrim
  congr 1
  funext c
  exact contains_blank c

theorem wtrim_len (l : List UInt8) : (wtrim l).length ≤ l.length := by
  unfold wtrim
  induction l with
  | nil => simp
  | cons c t ih => rw [List.dropWhile_cons]; split <;> simp <;> omega

theorem wtrim_head {l : List UInt8} {c : UInt8} {t : List UInt8} (h : wtrim l = c :: t) : blankB c = false := by
  unfold wtrim at h
  induction l with
  | nil => simp at h
  | cons d s ih =>
    rw [List.dropWhile_cons] at h
    split at h
    · exact ih h
    · simp at h; rename_i hd; rw [← h.1]; simpa using hd

theorem wtrim_cons_blank {c : UInt8} (t : List UInt8) (h : blankB c = true) : wtrim (c :: t) = wtrim t := by simp [wtrim, h]
theorem wtrim_cons {c : UInt8} (t : List UInt8) (h : blankB c = false) : wtrim (c :: t) = c :: t := by simp [wtrim, h]

/-- does a text begin with a blank or a tab, if with anything? -/
def goodTail : List UInt8 → Bool
  | [] => true
  | c :: _ => blankB c

/-- the word at the front of a line that begins with one, and what is behind it -/
def fw : List UInt8 → Option (List UInt8 × List UInt8)
  | [] => none
  | c :: t => if c.toNat = 34 then (match unquote (c :: t) with | none => none | some (a, b) => if goodTail b then some (a, b) else none) else some (wfront (c :: t), wback (c :: t))

theorem body_len : ∀ (n : Nat) (l a b : List UInt8), l.length ≤ n → body l = some (a, b) → b.length < l.length ∧ a.length ≤ l.length
  | 0, l, a, b, hn, h => by
    have : l = [] := List.eq_nil_of_length_eq_zero (by omega)
    subst this; simp [body] at h
  | n + 1, [], a, b, _, h => by simp [body] at h
  | n + 1, c :: t, a, b, hn, h => by
    by_cases h34 : c.toNat = 34
    · rw [body_end t h34] at h
      simp at h
      rw [h.1, ← h.2]; simp
    · cases hp : plainI c.toNat
      · by_cases h92 : c.toNat = 92 ∧ 2 ≤ t.length
        · match t, h92 with
          | x :: y :: t, ⟨h92, _⟩ =>
            cases hk : pairOk x y
            · rw [body_pair_no t h92 hk] at h; cases h
            · rw [body_pair t h92 hk] at h
              simp at h
              obtain ⟨a', h1, h2⟩ := h
              have := body_len n t a' b (by simp at hn; omega) h1
              rw [← h2]; simp; omega
        · rw [body_none t h34 hp h92] at h; cases h
      · rw [body_plain t hp] at h
        simp at h
        obtain ⟨a', h1, h2⟩ := h
        have := body_len n t a' b (by simp at hn; omega) h1
        rw [← h2]; simp; omega

theorem unquote_len {l a b : List UInt8} (h : unquote l = some (a, b)) : b.length < l.length ∧ a.length ≤ l.length := by
  cases l with
  | nil => simp [unquote] at h
  | cons c t =>
    rw [unquote] at h
    split at h
    · have := body_len t.length t a b (Nat.le_refl _) h
      simp; omega
    · cases h

theorem fw_len {l a b : List UInt8} (hb : ∀ c t, l = c :: t → blankB c = false) (h : fw l = some (a, b)) : b.length < l.length := by
  cases l with
  | nil => simp [fw] at h
  | cons c t =>
    rw [fw] at h
    split at h
    · split at h
      · cases h
      · rename_i a' b' hu
        split at h
        · simp at h
          have := unquote_len hu
          rw [← h.2]; exact this.1
        · cases h
    · simp at h
      rw [← h.2]
      have h0 := hb c t rfl
      have e : wback (c :: t) = wback t := by simp [wback, h0]
      rw [e]
      have : (wback t).length ≤ t.length := by
        unfold wback
        exact (List.dropWhile_sublist _).length_le
      simp; omega

/-- the words of a line behind those that were found already, and the error: 0, 3 (no text) or 9 (too many); n bounds the rounds -/
def wordsN : Nat → List (List UInt8) → List UInt8 → List (List UInt8) × Int
  | 0, _, _ => ([], 0)
  | n + 1, acc, l =>
    match wtrim l with
    | [] => (acc, 0)
    | c :: t => match fw (c :: t) with
      | none => ([], 3)
      | some (a, b) => if acc.length = 32 then ([], 9) else wordsN n (acc ++ [a]) b

def wordsA (acc : List (List UInt8)) (l : List UInt8) : List (List UInt8) × Int := wordsN (l.length + 1) acc l

theorem wordsN_more : ∀ (n m : Nat) (acc : List (List UInt8)) (l : List UInt8), l.length < n → l.length < m → wordsN n acc l = wordsN m acc l
  | 0, _, _, _, h, _ => by omega
  | _, 0, _, _, _, h => by omega
  | n + 1, m + 1, acc, l, h1, h2 => by
    rw [wordsN, wordsN]
    cases ht : wtrim l with
    | nil => rfl
    | cons c t =>
      simp only
      cases hf : fw (c :: t) with
      | none => rfl
      | some p =>
        obtain ⟨a, b⟩ := p
        simp only
        split
        · rfl
        · have hl := wtrim_len l
          rw [ht] at hl
          have := fw_len (fun c' t' e => by have hh := wtrim_head ht; simp at e; rw [← e.1]; exact hh) hf
          exact wordsN_more n m _ b (by omega) (by omega)

theorem words_end {acc : List (List UInt8)} {l : List UInt8} (h : wtrim l = []) : wordsA acc l = (acc, 0) := by
  unfold wordsA; rw [wordsN, h]
theorem words_bad {acc : List (List UInt8)} {l : List UInt8} {c : UInt8} {t : List UInt8} (h : wtrim l = c :: t) (hf : fw (c :: t) = none) : wordsA acc l = ([], 3) := by
  unfold wordsA; rw [wordsN, h]; simp only [hf]
theorem words_long {acc : List (List UInt8)} {l a b : List UInt8} {c : UInt8} {t : List UInt8} (h : wtrim l = c :: t) (hf : fw (c :: t) = some (a, b)) (hl : acc.length = 32) : wordsA acc l = ([], 9) := by
  unfold wordsA; rw [wordsN, h]; simp only [hf]; rw [if_pos hl]
theorem words_next {acc : List (List UInt8)} {l a b : List UInt8} {c : UInt8} {t : List UInt8} (h : wtrim l = c :: t) (hf : fw (c :: t) = some (a, b)) (hl : acc.length ≠ 32) : wordsA acc l = wordsA (acc ++ [a]) b := by
  have hlen := wtrim_len l
  rw [h] at hlen
  have hb := fw_len (fun c' t' e => by have hh := wtrim_head h; simp at e; rw [← e.1]; exact hh) hf
  unfold wordsA; rw [wordsN, h]; simp only [hf]; rw [if_neg hl]
  exact wordsN_more _ _ _ b (by omega) (by omega)
theorem words_trim (acc : List (List UInt8)) (l : List UInt8) : wordsA acc (wtrim l) = wordsA acc l := by
  have e : wtrim (wtrim l) = wtrim l := by
    cases h : wtrim l with
    | nil => rfl
    | cons c t => exact wtrim_cons t (wtrim_head h)
  have h1 := wordsN_more ((wtrim l).length + 1) (l.length + 1) acc (wtrim l) (by omega) (by have := wtrim_len l; omega)
  unfold wordsA
  rw [h1, wordsN, wordsN, e]
theorem words_blank {acc : List (List UInt8)} {c : UInt8} (t : List UInt8) (h : blankB c = true) : wordsA acc (c :: t) = wordsA acc t := by
  rw [← words_trim acc (c :: t), wtrim_cons_blank t h, words_trim]

def wordsL (l : List UInt8) : List (List UInt8) := (wordsA [] l).1
def wordsE (l : List UInt8) : Int := (wordsA [] l).2

def fwa (l : List UInt8) : List UInt8 := ((fw l).map (·.1)).getD []
def fwb (l : List UInt8) : List UInt8 := ((fw l).map (·.2)).getD []
def fwe (l : List UInt8) : Int := if (fw l).isSome then 0 else 3
theorem fw_none {l : List UInt8} (h : fw l = none) : fwa l = [] ∧ fwb l = [] ∧ fwe l = 3 := by simp [fwa, fwb, fwe, h]
theorem fw_some {l a b : List UInt8} (h : fw l = some (a, b)) : fwa l = a ∧ fwb l = b ∧ fwe l = 0 := by simp [fwa, fwb, fwe, h]
theorem fw_quote_none {c : UInt8} {t : List UInt8} (h : c.toNat = 34) (hu : unquote (c :: t) = none) : fw (c :: t) = none := by rw [fw, if_pos h, hu]
theorem fw_quote_bad {c : UInt8} {t a b : List UInt8} (h : c.toNat = 34) (hu : unquote (c :: t) = some (a, b)) (hg : goodTail b = false) : fw (c :: t) = none := by rw [fw, if_pos h, hu]; simp [hg]
theorem fw_quote_ok {c : UInt8} {t a b : List UInt8} (h : c.toNat = 34) (hu : unquote (c :: t) = some (a, b)) (hg : goodTail b = true) : fw (c :: t) = some (a, b) := by rw [fw, if_pos h, hu]; simp [hg]
theorem fw_plain {c : UInt8} {t : List UInt8} (h : c.toNat ≠ 34) : fw (c :: t) = some (wfront (c :: t), wback (c :: t)) := by rw [fw, if_neg h]

theorem wordsN_len : ∀ (n : Nat) (acc : List (List UInt8)) (l : List UInt8), acc.length ≤ 32 → (wordsN n acc l).1.length ≤ 32
  | 0, _, _, _ => by simp [wordsN]
  | n + 1, acc, l, h => by
    rw [wordsN]
    cases wtrim l with
    | nil => exact h
    | cons c t =>
      simp only
      cases fw (c :: t) with
      | none => simp
      | some p =>
        obtain ⟨a, b⟩ := p
        simp only
        split
        · simp
        · exact wordsN_len n _ b (by simp; omega)
theorem wordsL_len (l : List UInt8) : (wordsL l).length ≤ 32 := wordsN_len _ [] l (by simp)

end Go.Proofs.YtoelblofdgimfaaDoor
