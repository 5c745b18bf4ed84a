/-
  Plain facts on texts as lists of bytes: their lines, whether lines are right, the first byte in which two texts differ, a line without its line feed.
-/
import Derived.Lib.Bytealg
import Derived.Lib.Join
namespace Go.Proofs.Ytfjcichcmdnheab.Ln
open Go

/-- the lines of a text -/
def splitL : List UInt8 → List (List UInt8)
  | [] => []
  | c :: t => if c = 10 then [c] :: splitL t else match splitL t with
    | [] => [[c]]
    | x :: r => (c :: x) :: r

theorem split_cut (a b : List UInt8) (h : ∀ c ∈ a, c ≠ 10) : splitL (a ++ 10 :: b) = (a ++ [10]) :: splitL b := by
  induction a with
  | nil => simp [splitL]
  | cons c a ih =>
    have hc : c ≠ 10 := h c (by simp)
    have := ih fun x hx => h x (by simp [hx])
    simp only [List.cons_append, splitL, hc, if_false, this]

theorem split_one (a : List UInt8) (h : ∀ c ∈ a, c ≠ 10) (h0 : a ≠ []) : splitL a = [a] := by
  induction a with
  | nil => exact absurd rfl h0
  | cons c a ih =>
    have hc : c ≠ 10 := h c (by simp)
    cases a with
    | nil => simp [splitL, hc]
    | cons d a =>
      have := ih (fun x hx => h x (by simp [hx])) (by simp)
      simp only [splitL, hc, if_false] at this ⊢
      rw [this]

theorem split_join (l : List UInt8) : (splitL l).flatten = l := by
  induction l with
  | nil => rfl
  | cons c t ih =>
    unfold splitL
    by_cases hc : c = 10
    · simp [hc, ih]
    · simp only [hc, if_false]
      cases hs : splitL t with
      | nil => rw [hs] at ih; simp at ih; simp [← ih]
      | cons x r => rw [hs] at ih; simp at ih; simp [ih]

theorem split_len (l : List UInt8) : (splitL l).length ≤ l.length := by
  induction l with
  | nil => simp [splitL]
  | cons c t ih =>
    unfold splitL
    by_cases hc : c = 10
    · simp [hc]; omega
    · simp only [hc, if_false]
      cases hs : splitL t with
      | nil => simp
      | cons x r => rw [hs] at ih; simp at ih ⊢; omega

theorem split_nil {l : List UInt8} (h : splitL l = []) : l = [] := by
  have := split_join l
  rw [h] at this
  simpa using this.symm

/-- whether a text is a line; the last one may lack its line feed -/
def lineB : List UInt8 → Bool → Bool
  | [], _ => false
  | [c], last => last || c == 10
  | c :: d :: t, last => c != 10 && lineB (d :: t) last

def checkB : List (List UInt8) → Bool
  | [] => true
  | s :: t => lineB s t.isEmpty && checkB t

/-- what Check tells -/
def checkE (l : List (List UInt8)) : Int := if checkB l then 0 else 6

theorem lineB_cons (c : UInt8) (x : List UInt8) (last : Bool) (hx : x ≠ []) : lineB (c :: x) last = (c != 10 && lineB x last) := by
  cases x with
  | nil => exact absurd rfl hx
  | cons d t => rfl

theorem lineB_ne {x : List UInt8} {last : Bool} (h : lineB x last = true) : x ≠ [] := by rintro rfl; cases h

theorem lineB_false {x : List UInt8} (h : lineB x false = true) : ∃ a, x = a ++ [10] ∧ ∀ c ∈ a, c ≠ 10 := by
  induction x with
  | nil => cases h
  | cons c t ih =>
    cases t with
    | nil => exact ⟨[], by simpa [lineB] using h, by simp⟩
    | cons d t =>
      simp only [lineB, Bool.and_eq_true, bne_iff_ne] at h
      obtain ⟨a, ha, hn⟩ := ih h.2
      refine ⟨c :: a, by rw [ha]; rfl, ?_⟩
      intro x hx
      simp only [List.mem_cons] at hx
      rcases hx with rfl | hx
      · exact h.1
      · exact hn x hx

theorem lineB_true {x : List UInt8} (h : lineB x true = true) : lineB x false = true ∨ ∀ c ∈ x, c ≠ 10 := by
  induction x with
  | nil => cases h
  | cons c t ih =>
    cases t with
    | nil =>
      by_cases hc : c = 10
      · exact .inl (by simp [lineB, hc])
      · exact .inr (by simpa using hc)
    | cons d t =>
      simp only [lineB, Bool.and_eq_true, bne_iff_ne] at h
      rcases ih h.2 with h2 | h2
      · exact .inl (by simp only [lineB, Bool.and_eq_true, bne_iff_ne]; exact ⟨h.1, h2⟩)
      · refine .inr ?_
        intro x hx
        simp only [List.mem_cons] at hx
        rcases hx with rfl | hx
        · exact h.1
        · exact h2 x (by simpa using hx)

theorem split_right (l : List UInt8) : checkB (splitL l) = true := by
  induction l with
  | nil => rfl
  | cons c t ih =>
    unfold splitL
    by_cases hc : c = 10
    · simp [hc, checkB, lineB, ih]
    · simp only [hc, if_false]
      cases hs : splitL t with
      | nil => simp [checkB, lineB]
      | cons x r =>
        rw [hs] at ih
        simp only [checkB, Bool.and_eq_true] at ih ⊢
        rw [lineB_cons c x _ (lineB_ne ih.1)]
        simp [hc, ih.1, ih.2]

/-- right lines are the lines of the text that they make -/
theorem right_split (ws : List (List UInt8)) (h : checkB ws = true) : splitL ws.flatten = ws := by
  induction ws with
  | nil => rfl
  | cons x r ih =>
    simp only [checkB, Bool.and_eq_true] at h
    have hr := ih h.2
    cases r with
    | nil =>
      simp only [List.flatten_cons, List.flatten_nil, List.append_nil]
      rcases lineB_true (by simpa using h.1) with h1 | h1
      · obtain ⟨a, rfl, hn⟩ := lineB_false h1
        rw [split_cut a [] hn]; rfl
      · exact split_one x h1 (lineB_ne h.1)
    | cons y r =>
      obtain ⟨a, rfl, hn⟩ := lineB_false (by simpa using h.1)
      rw [List.flatten_cons, List.append_assoc]
      rw [show a ++ ([10] ++ (y :: r).flatten) = a ++ 10 :: (y :: r).flatten from rfl, split_cut a _ hn, hr]

theorem index_none {l : List UInt8} {c : UInt8} (h : Lib.indexByte l c < 0) : Lib.indexByte l c = -1 ∧ ∀ x ∈ l, x ≠ c := by
  induction l with
  | nil => exact ⟨rfl, by simp⟩
  | cons b l ih =>
    unfold Lib.indexByte at h ⊢
    by_cases hb : (b == c) = true
    · rw [if_pos hb] at h; simp at h
    · rw [if_neg hb] at h ⊢
      by_cases h1 : (Lib.indexByte l c == -1) = true
      · rw [if_pos h1]
        have h2 := ih (by simp at h1; omega)
        refine ⟨rfl, ?_⟩
        intro x hx
        simp only [List.mem_cons] at hx
        rcases hx with rfl | hx
        · simpa using hb
        · exact h2.2 x hx
      · rw [if_neg h1] at h
        have := Lib.indexByte_ge l c
        simp at h1
        omega

theorem index_some {l : List UInt8} {c : UInt8} (h : 0 ≤ Lib.indexByte l c) : ∃ a b, l = a ++ c :: b ∧ (∀ x ∈ a, x ≠ c) ∧ Lib.indexByte l c = a.length := by
  induction l with
  | nil => simp [Lib.indexByte] at h
  | cons d l ih =>
    unfold Lib.indexByte at h ⊢
    by_cases hb : (d == c) = true
    · have : d = c := by simpa using hb
      subst this
      rw [if_pos hb]
      exact ⟨[], l, rfl, by simp, rfl⟩
    · rw [if_neg hb] at h ⊢
      by_cases h1 : (Lib.indexByte l c == -1) = true
      · rw [if_pos h1] at h; simp at h
      · rw [if_neg h1] at h ⊢
        have := Lib.indexByte_ge l c
        obtain ⟨a, b, e1, e2, e3⟩ := ih (by simp at h1; omega)
        refine ⟨d :: a, b, by rw [e1]; rfl, ?_, by rw [e3]; simp⟩
        intro x hx
        simp only [List.mem_cons] at hx
        rcases hx with rfl | hx
        · simpa using hb
        · exact e2 x hx

theorem lineB_all {x : List UInt8} (h : ∀ c ∈ x, c ≠ 10) (last : Bool) : lineB x last = (last && !x.isEmpty) := by
  induction x with
  | nil => simp [lineB]
  | cons c t ih =>
    cases t with
    | nil =>
      have : c ≠ 10 := h c (by simp)
      simp [lineB, this]
    | cons d t =>
      rw [lineB, ih fun x hx => h x (by simp [hx])]
      have : c ≠ 10 := h c (by simp)
      simp [this]

theorem lineB_cut {a b : List UInt8} (h : ∀ c ∈ a, c ≠ 10) (last : Bool) : lineB (a ++ 10 :: b) last = b.isEmpty := by
  induction a with
  | nil =>
    cases b with
    | nil => simp [lineB]
    | cons d b => simp [lineB]
  | cons c a ih =>
    have hc : c ≠ 10 := h c (by simp)
    rw [List.cons_append, lineB_cons _ _ _ (by simp), ih fun x hx => h x (by simp [hx])]
    simp [hc]

/-- how many bytes at their fronts two texts have alike -/
def commonN : List UInt8 → List UInt8 → Nat
  | x :: a, y :: b => if x = y then commonN a b + 1 else 0
  | _, _ => 0

theorem common_le (a b : List UInt8) : commonN a b ≤ a.length ∧ commonN a b ≤ b.length := by
  induction a generalizing b with
  | nil => cases b <;> simp [commonN]
  | cons x a ih =>
    cases b with
    | nil => simp [commonN]
    | cons y b =>
      have := ih b
      unfold commonN
      split <;> simp <;> omega

theorem common_comm (a b : List UInt8) : commonN a b = commonN b a := by
  induction a generalizing b with
  | nil => cases b <;> rfl
  | cons x a ih =>
    cases b with
    | nil => rfl
    | cons y b =>
      unfold commonN
      by_cases h : x = y
      · rw [if_pos h, if_pos h.symm, ih b]
      · rw [if_neg h, if_neg (fun e => h e.symm)]

theorem common_take (a b : List UInt8) : a.take (commonN a b) = b.take (commonN a b) := by
  induction a generalizing b with
  | nil => cases b <;> simp [commonN]
  | cons x a ih =>
    cases b with
    | nil => simp [commonN]
    | cons y b =>
      unfold commonN
      by_cases h : x = y
      · rw [if_pos h, List.take_succ_cons, List.take_succ_cons, ih b, h]
      · rw [if_neg h]; rfl

theorem common_ne (a b : List UInt8) (h1 : commonN a b < a.length) (h2 : commonN a b < b.length) : a[commonN a b] ≠ b[commonN a b] := by
  induction a generalizing b with
  | nil => simp at h1
  | cons x a ih =>
    cases b with
    | nil => simp at h2
    | cons y b =>
      by_cases h : x = y
      · have e : commonN (x :: a) (y :: b) = commonN a b + 1 := by simp [commonN, h]
        simp only [e, List.length_cons] at h1 h2
        have := ih b (by omega) (by omega)
        simpa [e] using this
      · have e : commonN (x :: a) (y :: b) = 0 := by simp [commonN, h]
        simpa [e] using h

theorem common_full {a b : List UInt8} (h1 : commonN a b = a.length) (h2 : commonN a b = b.length) : a = b := by
  have := common_take a b
  rw [List.take_of_length_le (by omega), List.take_of_length_le (by omega)] at this
  exact this

theorem common_self (a : List UInt8) : commonN a a = a.length := by
  induction a with
  | nil => rfl
  | cons x a ih => simp [commonN, ih]

/-- one step further -/
theorem common_step {a b : List UInt8} {k : Nat} (hk : k ≤ commonN a b) (ha : k < a.length) (hb : k < b.length) (he : a[k] = b[k]) : k + 1 ≤ commonN a b := by
  rcases Nat.lt_or_ge k (commonN a b) with h | h
  · exact h
  · have e : commonN a b = k := by omega
    have := common_ne a b (by omega) (by omega)
    simp only [e] at this
    exact absurd he this

theorem common_stop {a b : List UInt8} {k : Nat} (hk : k ≤ commonN a b) (ha : k < a.length) (hb : k < b.length) (he : a[k] ≠ b[k]) : commonN a b = k := by
  rcases Nat.lt_or_ge k (commonN a b) with h | h
  · have h1 := common_take a b
    have h2 : (a.take (commonN a b))[k]? = (b.take (commonN a b))[k]? := by rw [h1]
    rw [List.getElem?_take_of_lt h, List.getElem?_take_of_lt h] at h2
    simp only [ha, hb, List.getElem?_eq_getElem, Option.some.injEq] at h2
    exact absurd h2 he
  · omega

theorem common_end {a b : List UInt8} {k : Nat} (hk : k ≤ commonN a b) (h : a.length ≤ k ∨ b.length ≤ k) : commonN a b = k := by
  have := common_le a b
  omega

/-- the first byte in which two texts differ, and its line -/
def firstN (a b : List UInt8) : Nat := if a = b then 0 else commonN a b + 1
def firstL (a b : List UInt8) : Nat := if a = b then 0 else (a.take (commonN a b)).count 10 + 1
def firstB (a b : List UInt8) : Bool := !(decide (a = b))

/-- a line without its line feed -/
def feedB (s : List UInt8) : Bool := s.getLast? == some 10
def bareL (s : List UInt8) : List UInt8 := if feedB s then s.dropLast else s

/-- whole lines -/
theorem split_count (l : List UInt8) : l.count 10 = (splitL l).length - (if feedB l || l.isEmpty then 0 else 1) := by
  induction l with
  | nil => rfl
  | cons c t ih =>
    unfold splitL
    by_cases hc : c = 10
    · subst hc
      cases t with
      | nil => simp [feedB, splitL]
      | cons d t =>
        have e : feedB (10 :: d :: t) = feedB (d :: t) := by simp [feedB]
        have h1 : 0 < (splitL (d :: t)).length := by
          rcases Nat.eq_zero_or_pos (splitL (d :: t)).length with h | h
          · have := split_nil (List.eq_nil_of_length_eq_zero h); simp at this
          · exact h
        rw [e]
        simp only [List.count_cons_self, ih, if_true, List.length_cons, List.isEmpty_cons]
        split <;> omega
    · simp only [hc, if_false]
      cases t with
      | nil => simp [feedB, splitL, hc]
      | cons d t =>
        have e : feedB (c :: d :: t) = feedB (d :: t) := by simp [feedB]
        rw [e, List.count_cons_of_ne hc, ih]
        cases hs : splitL (d :: t) with
        | nil => have := split_nil hs; simp at this
        | cons x r => simp

/-- the last line has a line feed just if the text has one at its end -/
theorem split_last (l : List UInt8) (h : splitL l ≠ []) : feedB ((splitL l).getLast h) = feedB l := by
  have hj := split_join l
  have hr := split_right l
  generalize splitL l = ws at *
  subst hj
  induction ws with
  | nil => exact absurd rfl h
  | cons x r ih =>
    simp only [checkB, Bool.and_eq_true] at hr
    cases r with
    | nil => simp
    | cons y r =>
      have := ih (by simp) hr.2
      rw [List.getLast_cons (by simp), this]
      have hne : (y :: r).flatten ≠ [] := by
        simp only [checkB, Bool.and_eq_true] at hr
        have := lineB_ne hr.2.1
        simp [this]
      have e : (x :: y :: r).flatten = x ++ (y :: r).flatten := List.flatten_cons
      rw [e]
      generalize (y :: r).flatten = z at *
      unfold feedB
      rw [List.getLast?_append]
      cases hl : z.getLast? with
      | none => exact absurd (List.getLast?_eq_none_iff.1 hl) hne
      | some z => rfl

theorem split_cat (a b : List UInt8) (h : a = [] ∨ feedB a = true) : splitL (a ++ b) = splitL a ++ splitL b := by
  induction a with
  | nil => rfl
  | cons c t ih =>
    have hf : feedB (c :: t) = true := by rcases h with h | h; · cases h
                                          · exact h
    have ht : t = [] ∨ feedB t = true := by
      cases t with
      | nil => exact .inl rfl
      | cons d t => exact .inr (by simpa [feedB] using hf)
    have := ih ht
    have s1 : splitL (c :: t) = if c = 10 then [c] :: splitL t else match splitL t with | [] => [[c]] | x :: r => (c :: x) :: r := rfl
    have s2 : splitL (c :: (t ++ b)) = if c = 10 then [c] :: splitL (t ++ b) else match splitL (t ++ b) with | [] => [[c]] | x :: r => (c :: x) :: r := rfl
    rw [List.cons_append, s1, s2]
    by_cases hc : c = 10
    · simp [hc, this]
    · simp only [hc, if_false, this]
      cases hs : splitL t with
      | nil =>
        have := split_nil hs
        subst this
        simp [feedB] at hf
        exact absurd hf hc
      | cons x r => rfl

/-- the last line of the first and the first of the second are one -/
theorem split_glue (a b : List UInt8) (ha : a ≠ []) (hf : feedB a = false) (hb : b ≠ []) : ∃ p x y q, splitL a = p ++ [x] ∧ splitL b = y :: q ∧ splitL (a ++ b) = p ++ (x ++ y) :: q := by
  induction a with
  | nil => exact absurd rfl ha
  | cons c t ih =>
    cases t with
    | nil =>
      have hc : c ≠ 10 := by simpa [feedB] using hf
      cases hs : splitL b with
      | nil => exact absurd (split_nil hs) hb
      | cons y q =>
        refine ⟨[], [c], y, q, by simp [splitL, hc], rfl, ?_⟩
        rw [List.cons_append, List.nil_append]
        unfold splitL
        simp [hc, hs]
    | cons d t =>
      obtain ⟨p, x, y, q, e1, e2, e3⟩ := ih (by simp) (by simpa [feedB] using hf)
      rw [List.cons_append]
      have s1 : splitL (c :: (d :: t)) = if c = 10 then [c] :: splitL (d :: t) else match splitL (d :: t) with | [] => [[c]] | x :: r => (c :: x) :: r := rfl
      have s2 : splitL (c :: (d :: t ++ b)) = if c = 10 then [c] :: splitL (d :: t ++ b) else match splitL (d :: t ++ b) with | [] => [[c]] | x :: r => (c :: x) :: r := rfl
      rw [s1, s2, e1, e3]
      by_cases hc : c = 10
      · exact ⟨[c] :: p, x, y, q, by simp [hc], e2, by simp [hc]⟩
      · simp only [hc, if_false]
        cases p with
        | nil => exact ⟨[], c :: x, y, q, rfl, e2, rfl⟩
        | cons z p => exact ⟨(c :: z) :: p, x, y, q, rfl, e2, rfl⟩

theorem join_nil_sep (xs : List (List UInt8)) : Lib.join xs [] = xs.flatten := by
  induction xs with
  | nil => rfl
  | cons x r ih =>
    rw [Lib.join_cons]
    simp [Lib.joinTail]

theorem flatten_le {ws : List (List UInt8)} {n : Nat} (h : ∀ a ∈ ws, a.length ≤ n) : ws.flatten.length ≤ ws.length * n := by
  induction ws with
  | nil => simp
  | cons x r ih =>
    have h1 := h x (by simp)
    have h2 := ih fun a ha => h a (by simp [ha])
    simp only [List.flatten_cons, List.length_append, List.length_cons, Nat.add_mul]
    omega
end Go.Proofs.Ytfjcichcmdnheab.Ln
