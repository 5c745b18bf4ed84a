/-
  How long the longest common row of two rows of numbers is, what is kept, and what follows: plain.
-/
import Derived.Test.YtppdcjjkkckokaaEdM4
namespace Go.Proofs.Ytppdcjjkkckokaa

/-- how long the longest common row is -/
def lc : List Int → List Int → Nat
  | [], _ => 0
  | _ :: _, [] => 0
  | a :: x, b :: y => if a = b then lc x y + 1 else max (lc x (b :: y)) (lc (a :: x) y)
termination_by x y => x.length + y.length
theorem lc_nil_left (y : List Int) : lc [] y = 0 := by rw [lc]
theorem lc_nil_right (x : List Int) : lc x [] = 0 := by cases x <;> rw [lc]
theorem lc_cons (a b : Int) (x y : List Int) : lc (a :: x) (b :: y) = if a = b then lc x y + 1 else max (lc x (b :: y)) (lc (a :: x) y) := by rw [lc]
theorem lc_ex (x y : List Int) : ∃ s : List Int, s.Sublist x ∧ s.Sublist y ∧ s.length = lc x y := by
  induction x generalizing y with
  | nil => exact ⟨[], List.Sublist.refl _, List.nil_sublist _, by rw [lc_nil_left]; rfl⟩
  | cons a x ih =>
    induction y with
    | nil => exact ⟨[], List.nil_sublist _, List.Sublist.refl _, by rw [lc_nil_right]; rfl⟩
    | cons b y ihy =>
      rw [lc_cons]
      by_cases h : a = b
      · subst h
        obtain ⟨s, h1, h2, h3⟩ := ih y
        exact ⟨a :: s, h1.cons_cons a, h2.cons_cons a, by rw [if_pos rfl]; simp [h3]⟩
      · rw [if_neg h]
        obtain ⟨s, h1, h2, h3⟩ := ih (b :: y)
        obtain ⟨t, k1, k2, k3⟩ := ihy
        by_cases hm : lc x (b :: y) ≤ lc (a :: x) y
        · exact ⟨t, k1, k2.cons b, by omega⟩
        · exact ⟨s, h1.cons a, h2, by omega⟩
theorem lc_le (s x y : List Int) (hx : s.Sublist x) (hy : s.Sublist y) : s.length ≤ lc x y := by
  induction x generalizing y s with
  | nil => rw [List.sublist_nil.1 hx]; simp
  | cons a x ih =>
    induction y generalizing s with
    | nil => rw [List.sublist_nil.1 hy]; simp
    | cons b y ihy =>
      rw [lc_cons]
      by_cases h : a = b
      · subst h
        rw [if_pos rfl]
        cases hx with
        | cons _ hx =>
          cases hy with
          | cons _ hy => have := ih s y hx hy; omega
          | cons_cons _ hy =>
            rename_i s
            have := ih s y ((List.sublist_cons_self a s).trans hx) hy
            simp; omega
        | cons_cons _ hx =>
          rename_i s
          have : s.Sublist y := by
            cases hy with
            | cons _ hy => exact (List.sublist_cons_self a s).trans hy
            | cons_cons _ hy => exact hy
          have := ih s y hx this
          simp; omega
      · rw [if_neg h]
        cases hx with
        | cons _ hx => have := ih s (b :: y) hx hy; omega
        | cons_cons _ hx =>
          rename_i s
          cases hy with
          | cons _ hy => have := ihy (a :: s) (hx.cons_cons a) hy; omega
          | cons_cons _ hy => exact absurd rfl h
theorem lc_left (x y : List Int) : lc x y ≤ x.length := by
  obtain ⟨s, h1, _, h3⟩ := lc_ex x y
  rw [← h3]; exact h1.length_le
theorem lc_right (x y : List Int) : lc x y ≤ y.length := by
  obtain ⟨s, _, h2, h3⟩ := lc_ex x y
  rw [← h3]; exact h2.length_le
theorem lc_of {x y x' y' : List Int} (h : ∀ s : List Int, s.Sublist x → s.Sublist y → ∃ t : List Int, t.Sublist x' ∧ t.Sublist y' ∧ s.length ≤ t.length) : lc x y ≤ lc x' y' := by
  obtain ⟨s, h1, h2, h3⟩ := lc_ex x y
  obtain ⟨t, k1, k2, k3⟩ := h s h1 h2
  have := lc_le t x' y' k1 k2
  omega
theorem lc_comm (x y : List Int) : lc x y = lc y x := Nat.le_antisymm (lc_of fun s a b => ⟨s, b, a, Nat.le_refl _⟩) (lc_of fun s a b => ⟨s, b, a, Nat.le_refl _⟩)
theorem lc_rev (x y : List Int) : lc x.reverse y.reverse = lc x y := by
  refine Nat.le_antisymm (lc_of fun s a b => ⟨s.reverse, ?_, ?_, by simp⟩) (lc_of fun s a b => ⟨s.reverse, List.reverse_sublist.2 a, List.reverse_sublist.2 b, by simp⟩)
  · have := List.reverse_sublist.2 a; rwa [List.reverse_reverse] at this
  · have := List.reverse_sublist.2 b; rwa [List.reverse_reverse] at this
theorem lc_self (x : List Int) : lc x x = x.length := Nat.le_antisymm (lc_left x x) (lc_le x x x (List.Sublist.refl _) (List.Sublist.refl _))
theorem lc_ahead (c : Int) (x y : List Int) : lc (c :: x) (c :: y) = lc x y + 1 := by rw [lc_cons, if_pos rfl]
theorem lc_mono {x x' y y' : List Int} (hx : x.Sublist x') (hy : y.Sublist y') : lc x y ≤ lc x' y' := lc_of fun s a b => ⟨s, a.trans hx, b.trans hy, Nat.le_refl _⟩
/-- a line more -/
theorem lc_more (p q y : List Int) (c : Int) : lc (p ++ q) y ≤ lc (p ++ c :: q) y ∧ lc (p ++ c :: q) y ≤ lc (p ++ q) y + 1 := by
  refine ⟨lc_mono ((List.Sublist.refl p).append (List.sublist_cons_self c q)) (List.Sublist.refl y), ?_⟩
  obtain ⟨s, h1, h2, h3⟩ := lc_ex (p ++ c :: q) y
  obtain ⟨s1, s2, rfl, k1, k2⟩ := List.sublist_append_iff.1 h1
  cases k2 with
  | cons _ k2 =>
    have := lc_le (s1 ++ s2) (p ++ q) y (k1.append k2) h2
    omega
  | cons_cons _ k2 =>
    rename_i s2
    have := lc_le (s1 ++ s2) (p ++ q) y (k1.append k2) (((List.Sublist.refl s1).append (List.sublist_cons_self c s2)).trans h2)
    simp at h3 this
    omega
/-- rows behind both -/
theorem lc_behind (x y u v : List Int) : lc x y + lc u v ≤ lc (x ++ u) (y ++ v) := by
  obtain ⟨s, h1, h2, h3⟩ := lc_ex x y
  obtain ⟨t, k1, k2, k3⟩ := lc_ex u v
  have := lc_le (s ++ t) (x ++ u) (y ++ v) (h1.append k1) (h2.append k2)
  simp at this
  omega
theorem lc_all (x y : List Int) : lc x y = x.length ↔ x.Sublist y := by
  constructor
  · intro h
    obtain ⟨s, h1, h2, h3⟩ := lc_ex x y
    have : s = x := h1.eq_of_length (by omega)
    rwa [← this]
  · intro h
    exact Nat.le_antisymm (lc_left x y) (lc_le x x y (List.Sublist.refl _) h)
/-- how much of x is found in y, going through y once -/
def gr : List Int → List Int → Nat
  | [], _ => 0
  | _ :: _, [] => 0
  | a :: x, b :: y => if a = b then gr x y + 1 else gr (a :: x) y
theorem gr_le (x y : List Int) : gr x y ≤ x.length := by
  induction y generalizing x with
  | nil => cases x <;> simp [gr]
  | cons b y ih =>
    cases x with
    | nil => simp [gr]
    | cons a x =>
      rw [gr]
      split
      · have := ih x; simp; omega
      · exact ih (a :: x)
theorem gr_all (x y : List Int) : gr x y = x.length ↔ x.Sublist y := by
  induction y generalizing x with
  | nil => cases x <;> simp [gr]
  | cons b y ih =>
    cases x with
    | nil => simp [gr]
    | cons a x =>
      rw [gr]
      by_cases h : a = b
      · subst h
        rw [if_pos rfl]
        have := ih x
        rw [List.cons_sublist_cons, ← this]
        simp
      · rw [if_neg h, ih (a :: x)]
        constructor
        · exact fun h => h.cons b
        · intro k
          cases k with
          | cons _ k => exact k
          | cons_cons _ k => exact absurd rfl h

/-- what is kept: with which of y's members, numbered from b on, each of x's makes a pair -/
def kp (b : Int) : List Int → List Int → List Int
  | [], _ => []
  | _ :: x, [] => -1 :: kp b x []
  | a :: x, c :: y => if a = c then b :: kp (b + 1) x y else if lc (a :: x) y ≤ lc x (c :: y) then -1 :: kp b x (c :: y) else kp (b + 1) (a :: x) y
termination_by x y => x.length + y.length
theorem kp_nil (b : Int) (y : List Int) : kp b [] y = [] := by rw [kp]
theorem kp_none (b : Int) (x : List Int) : kp b x [] = List.replicate x.length (-1) := by
  induction x with
  | nil => rw [kp]; rfl
  | cons a x ih => rw [kp, ih]; rfl
theorem kp_cons (b a c : Int) (x y : List Int) : kp b (a :: x) (c :: y) = if a = c then b :: kp (b + 1) x y else if lc (a :: x) y ≤ lc x (c :: y) then -1 :: kp b x (c :: y) else kp (b + 1) (a :: x) y := by rw [kp]
theorem kp_length (b : Int) (x y : List Int) : (kp b x y).length = x.length := by
  induction x generalizing y b with
  | nil => rw [kp_nil]
  | cons a x ih =>
    induction y generalizing b with
    | nil => rw [kp_none]; simp
    | cons c y ihy =>
      rw [kp_cons]
      split
      · simp [ih]
      split
      · simp [ih]
      · exact ihy _
theorem Vk.up {a b m : Int} {K : List Int} (h : Vk b m K) (hab : a ≤ b) : Vk a m K := by
  induction K with
  | nil => trivial
  | cons z t ih =>
    rcases h with ⟨h1, h2⟩ | ⟨h1, h2, h3⟩
    · exact .inl ⟨h1, ih h2⟩
    · exact .inr ⟨h1, by omega, h3⟩
theorem Vk.none (b m : Int) (k : Nat) : Vk b m (List.replicate k (-1)) := by
  induction k with
  | zero => trivial
  | succ k ih => exact .inl ⟨rfl, ih⟩
theorem kp_vk (b : Int) (x y : List Int) (hb : 0 ≤ b) : Vk b (b + y.length) (kp b x y) := by
  induction x generalizing y b with
  | nil => rw [kp_nil]; trivial
  | cons a x ih =>
    induction y generalizing b with
    | nil => rw [kp_none]; exact Vk.none _ _ _
    | cons c y ihy =>
      rw [kp_cons]
      split
      · refine .inr ⟨by omega, by omega, by simp; omega, ?_⟩
        have := ih (b + 1) y (by omega)
        rw [show b + ((c :: y).length : Int) = b + 1 + (y.length : Int) by simp; omega]
        exact this
      split
      · exact .inl ⟨rfl, ih b (c :: y) hb⟩
      · have := ihy (b + 1) (by omega)
        rw [show b + ((c :: y).length : Int) = b + 1 + (y.length : Int) by simp; omega]
        exact this.up (by omega)
/-- how many pairs a list of what is kept holds -/
def prs (K : List Int) : Nat := (K.filter fun z => decide (0 ≤ z)).length
theorem prs_kp (b : Int) (x y : List Int) (hb : 0 ≤ b) : prs (kp b x y) = lc x y := by
  induction x generalizing y b with
  | nil => rw [kp_nil, lc_nil_left]; rfl
  | cons a x ih =>
    induction y generalizing b with
    | nil =>
      rw [kp_none, lc_nil_right]
      simp [prs]
    | cons c y ihy =>
      rw [kp_cons, lc_cons]
      by_cases h : a = c
      · rw [if_pos h, if_pos h, ← ih (b + 1) y (by omega)]
        simp [prs, hb]
      · rw [if_neg h, if_neg h]
        split
        · have := ih b (c :: y) hb
          rw [show prs (-1 :: kp b x (c :: y)) = prs (kp b x (c :: y)) by simp [prs], this]
          omega
        · rw [ihy (b + 1) (by omega)]
          omega
/-- what is kept is the same -/
theorem kp_same (b : Int) (x y : List Int) (hb : 0 ≤ b) (i : Nat) (z : Int) (h : (kp b x y)[i]? = some z) (hz : 0 ≤ z) : b ≤ z ∧ ∃ c, x[i]? = some c ∧ y[(z - b).toNat]? = some c := by
  induction x generalizing y b i with
  | nil => rw [kp_nil] at h; simp at h
  | cons a x ih =>
    induction y generalizing b i with
    | nil =>
      rw [kp_none] at h
      have := List.eq_of_mem_replicate (List.mem_of_getElem? h)
      omega
    | cons c y ihy =>
      rw [kp_cons] at h
      by_cases e : a = c
      · subst e
        rw [if_pos rfl] at h
        cases i with
        | zero =>
          simp at h
          subst h
          exact ⟨Int.le_refl _, a, by simp, by simp⟩
        | succ i =>
          obtain ⟨h1, d, h2, h3⟩ := ih (b + 1) y (by omega) i (by simpa using h)
          refine ⟨by omega, d, by simpa using h2, ?_⟩
          rw [show (z - b).toNat = (z - (b + 1)).toNat + 1 by omega]
          simpa using h3
      · rw [if_neg e] at h
        split at h
        · cases i with
          | zero => simp at h; omega
          | succ i =>
            obtain ⟨h1, d, h2, h3⟩ := ih b (c :: y) hb i (by simpa using h)
            exact ⟨h1, d, by simpa using h2, h3⟩
        · obtain ⟨h1, d, h2, h3⟩ := ihy (b + 1) (by omega) i h
          refine ⟨by omega, d, h2, ?_⟩
          rw [show (z - b).toNat = (z - (b + 1)).toNat + 1 by omega]
          simpa using h3
/-- how many members are the same at the front -/
def fr : List Int → List Int → Nat
  | a :: x, b :: y => if a = b then fr x y + 1 else 0
  | _, _ => 0
theorem fr_le (x y : List Int) : fr x y ≤ x.length ∧ fr x y ≤ y.length := by
  induction x generalizing y with
  | nil => simp [fr]
  | cons a x ih =>
    cases y with
    | nil => simp [fr]
    | cons b y =>
      have := ih y
      rw [fr]
      split <;> simp <;> omega
theorem fr_lc (x y : List Int) : fr x y + lc (x.drop (fr x y)) (y.drop (fr x y)) = lc x y := by
  induction x generalizing y with
  | nil => simp [fr, lc_nil_left]
  | cons a x ih =>
    cases y with
    | nil => simp [fr, lc_nil_right]
    | cons b y =>
      have := ih y
      rw [fr]
      split
      · rename_i h
        subst h
        rw [lc_ahead]
        simp
        omega
      · simp
theorem fr_at (x y : List Int) (i : Nat) (h : i < fr x y) : x[i]? = y[i]? := by
  induction x generalizing y i with
  | nil => simp [fr] at h
  | cons a x ih =>
    cases y with
    | nil => simp [fr] at h
    | cons b y =>
      rw [fr] at h
      split at h
      · rename_i e
        subst e
        cases i with
        | zero => simp
        | succ i => simpa using ih y i (by omega)
      · omega
theorem fr_step (x y : List Int) (i : Nat) (hx : i < x.length) (hy : i < y.length) : fr (x.drop i) (y.drop i) = if x[i] = y[i] then fr (x.drop (i + 1)) (y.drop (i + 1)) + 1 else 0 := by
  rw [List.drop_eq_getElem_cons hx, List.drop_eq_getElem_cons hy, fr]
/-- a length of two places -/
def ln (x y : List Int) (i j : Nat) : Nat := lc (x.drop i) (y.drop j)
theorem ln_end (x y : List Int) (i j : Nat) (h : x.length ≤ i ∨ y.length ≤ j) : ln x y i j = 0 := by
  rcases h with h | h
  · rw [ln, List.drop_of_length_le h, lc_nil_left]
  · rw [ln, List.drop_of_length_le h, lc_nil_right]
theorem ln_step (x y : List Int) (i j : Nat) (hx : i < x.length) (hy : j < y.length) : ln x y i j = if x[i] = y[j] then ln x y (i + 1) (j + 1) + 1 else max (ln x y (i + 1) j) (ln x y i (j + 1)) := by
  unfold ln
  rw [List.drop_eq_getElem_cons hx, List.drop_eq_getElem_cons hy, lc_cons]
theorem ln_le (x y : List Int) (i j : Nat) : ln x y i j ≤ x.length := by
  have := lc_left (x.drop i) (y.drop j)
  simp at this
  unfold ln
  omega
theorem ln_zero (x y : List Int) : ln x y 0 0 = lc x y := rfl
theorem kp_step (b : Int) (x y : List Int) (i j : Nat) (hx : i < x.length) (hy : j < y.length) : kp b (x.drop i) (y.drop j) = if x[i] = y[j] then b :: kp (b + 1) (x.drop (i + 1)) (y.drop (j + 1)) else if ln x y i (j + 1) ≤ ln x y (i + 1) j then -1 :: kp b (x.drop (i + 1)) (y.drop j) else kp (b + 1) (x.drop i) (y.drop (j + 1)) := by
  unfold ln
  rw [List.drop_eq_getElem_cons hx, List.drop_eq_getElem_cons hy, kp_cons]
theorem kp_same_front (b : Int) (x y : List Int) (i : Nat) (h : i < fr x y) : kp b (x.drop i) (y.drop i) = b :: kp (b + 1) (x.drop (i + 1)) (y.drop (i + 1)) := by
  have h1 := fr_le x y
  rw [kp_step b x y i i (by omega) (by omega), if_pos]
  have := fr_at x y i h
  rw [List.getElem?_eq_getElem (by omega), List.getElem?_eq_getElem (by omega)] at this
  simpa using this
end Go.Proofs.Ytppdcjjkkckokaa
