/-
  Edit scripts and the pairs that they keep: plain mathematics. Units: runs of one line; a script is made again out of its units.
-/
import Derived.Test.YtppdcjjkkckokaaEdMath
namespace Go.Proofs.Ytppdcjjkkckokaa

/-- k pairs from a and b on -/
def un (a b : Int) : Nat → List Rn
  | 0 => []
  | k + 1 => ⟨a, b, 1⟩ :: un (a + 1) (b + 1) k
/-- the pairs of a run -/
def ex (r : Rn) : List Rn := un r.a r.b r.n.toNat
def exs (rs : List Rn) : List Rn := rs.flatMap ex
theorem exs_cons (r : Rn) (rs : List Rn) : exs (r :: rs) = ex r ++ exs rs := rfl
theorem mem_un {a b : Int} {k : Nat} {r : Rn} : r ∈ un a b k ↔ r.n = 1 ∧ a ≤ r.a ∧ r.a < a + k ∧ r.b - r.a = b - a := by
  induction k generalizing a b with
  | zero => simp [un]; omega
  | succ k ih =>
    rw [un, List.mem_cons, ih]
    constructor
    · rintro (rfl | h)
      · simp; omega
      · omega
    · rintro ⟨h1, h2, h3, h4⟩
      by_cases h : r.a = a
      · left
        obtain ⟨x, y, z⟩ := r
        simp only at *
        subst h h1
        have : y = b := by omega
        rw [this]
      · right
        omega
theorem mem_ex {p r : Rn} : r ∈ ex p ↔ r.n = 1 ∧ p.a ≤ r.a ∧ r.a < p.a + p.n.toNat ∧ r.b - r.a = p.b - p.a := mem_un
theorem mem_exs {ps : List Rn} {r : Rn} : r ∈ exs ps ↔ ∃ p ∈ ps, r ∈ ex p := by simp [exs]
theorem un_append (a b : Int) (i j : Nat) : un a b (i + j) = un a b i ++ un (a + i) (b + i) j := by
  induction i generalizing a b with
  | zero => simp [un]
  | succ i ih =>
    rw [show i + 1 + j = (i + j) + 1 by omega, un, un, ih]
    simp only [List.cons_append]
    congr 3 <;> omega

/-- rising runs, from a and b on -/
def Chain : Int → Int → List Rn → Prop
  | _, _, [] => True
  | a, b, r :: rs => a ≤ r.a ∧ b ≤ r.b ∧ 0 ≤ r.n ∧ Chain (r.a + r.n) (r.b + r.n) rs
theorem Chain.low {a b : Int} {rs : List Rn} (h : Chain a b rs) : ∀ r ∈ exs rs, r.n = 1 ∧ a ≤ r.a ∧ b ≤ r.b := by
  induction rs generalizing a b with
  | nil => simp [exs]
  | cons p rs ih =>
    obtain ⟨h1, h2, h3, h4⟩ := h
    intro r hr
    rw [exs_cons, List.mem_append, mem_ex] at hr
    rcases hr with hr | hr
    · omega
    · have := ih h4 r hr
      omega
theorem Chain.mono {a b a' b' : Int} {rs : List Rn} (h : Chain a b rs) (ha : a' ≤ a) (hb : b' ≤ b) : Chain a' b' rs := by
  cases rs with
  | nil => trivial
  | cons p rs => exact ⟨by have := h.1; omega, by have := h.2.1; omega, h.2.2⟩
/-- pairs in a rising row -/
def Up (l : List Rn) : Prop := l.Pairwise fun p q => p.a < q.a ∧ p.b < q.b
theorem up_un (a b : Int) (k : Nat) : Up (un a b k) := by
  induction k generalizing a b with
  | zero => exact List.Pairwise.nil
  | succ k ih =>
    refine List.Pairwise.cons (fun r hr => ?_) (ih _ _)
    rw [mem_un] at hr
    dsimp only
    omega
theorem Chain.up {a b : Int} {rs : List Rn} (h : Chain a b rs) : Up (exs rs) := by
  induction rs generalizing a b with
  | nil => exact List.Pairwise.nil
  | cons p rs ih =>
    obtain ⟨h1, h2, h3, h4⟩ := h
    rw [exs_cons]
    refine List.pairwise_append.2 ⟨up_un _ _ _, ih h4, fun r hr q hq => ?_⟩
    rw [mem_ex] at hr
    have := h4.low q hq
    omega
/-- two rising rows of the same pairs are one -/
theorem up_ext {l k : List Rn} (hl : Up l) (hk : Up k) (h : ∀ r, r ∈ l ↔ r ∈ k) : l = k := by
  induction l generalizing k with
  | nil =>
    cases k with
    | nil => rfl
    | cons y t => have := (h y).2 (List.mem_cons_self ..); simp at this
  | cons x t ih =>
    cases k with
    | nil => have := (h x).1 (List.mem_cons_self ..); simp at this
    | cons y u =>
      unfold Up at hl hk
      rw [List.pairwise_cons] at hl hk
      have e : x = y := by
        have h1 := (h x).1 (List.mem_cons_self ..)
        have h2 := (h y).2 (List.mem_cons_self ..)
        rw [List.mem_cons] at h1 h2
        rcases h1 with h1 | h1
        · exact h1
        · rcases h2 with h2 | h2
          · exact h2.symm
          · have := hl.1 y h2
            have := hk.1 x h1
            omega
      subst e
      rw [ih hl.2 hk.2 fun r => ?_]
      have hr := h r
      rw [List.mem_cons, List.mem_cons] at hr
      constructor
      · intro hrt
        rcases hr.1 (.inr hrt) with e | e
        · subst e; have := hl.1 _ hrt; omega
        · exact e
      · intro hru
        rcases hr.2 (.inr hru) with e | e
        · subst e; have := hk.1 _ hru; omega
        · exact e

/-- the changes between what is kept -/
def betw : Int → Int → List Rn → List Ch
  | _, _, [] => []
  | a, b, r :: rs => if a < r.a ∨ b < r.b then ⟨a, r.a - a, b, r.b - b⟩ :: betw (r.a + r.n) (r.b + r.n) rs else betw (r.a + r.n) (r.b + r.n) rs
theorem betw_un (a b : Int) (k : Nat) (e : List Rn) : betw a b (un a b k ++ e) = betw (a + k) (b + k) e := by
  induction k generalizing a b with
  | zero => simp [un]
  | succ k ih =>
    rw [un, List.cons_append, betw]
    rw [if_neg (by simp)]
    dsimp only
    rw [ih]
    congr 1 <;> omega
theorem betw_ex (a b : Int) (r : Rn) (hr : 0 < r.n) (e : List Rn) : betw a b (r :: e) = betw a b (ex r ++ e) := by
  obtain ⟨x, y, n⟩ := r
  obtain ⟨k, rfl⟩ : ∃ k : Nat, n = ((k + 1 : Nat) : Int) := ⟨n.toNat - 1, by dsimp only at hr; omega⟩
  unfold ex
  dsimp only
  rw [Int.toNat_natCast, un, List.cons_append, betw, betw]
  have h := betw_un (x + 1) (y + 1) k e
  dsimp only
  rw [h]
  rw [show x + 1 + (k : Int) = x + ((k + 1 : Nat) : Int) by omega, show y + 1 + (k : Int) = y + ((k + 1 : Nat) : Int) by omega]
theorem betw_exs (a b : Int) (rs : List Rn) (h : ∀ r ∈ rs, 0 < r.n) (e : List Rn) : betw a b (rs ++ e) = betw a b (exs rs ++ e) := by
  induction rs generalizing a b with
  | nil => rfl
  | cons r rs ih =>
    have h1 := betw_ex a b r (h r (List.mem_cons_self ..)) (exs rs ++ e)
    rw [exs_cons, List.append_assoc, ← h1, List.cons_append, betw, betw]
    have := ih (r.a + r.n) (r.b + r.n) fun q hq => h q (List.mem_cons_of_mem _ hq)
    rw [this]

/-- what a script keeps, as runs -/
def rns (a b n m : Int) (l : List Ch) : List Rn := (piecesL a b n m l).map (·.1)
/-- what a script keeps, pair by pair -/
def U (a b n m : Int) (l : List Ch) : List Rn := exs (rns a b n m l)
theorem U_nil (a b n m : Int) : U a b n m [] = un a b (n - a).toNat := by simp [U, rns, piecesL, exs, ex]
theorem U_cons (a b n m : Int) (c : Ch) (l : List Ch) : U a b n m (c :: l) = un a b (c.A - a).toNat ++ U (c.A + c.AN) (c.B + c.BN) n m l := by
  simp [U, rns, piecesL, exs, ex]
theorem Right.chain {f : Bool} {a b n m : Int} {l : List Ch} (h : Right f a b n m l) : Chain a b (rns a b n m l) := by
  induction l generalizing f a b with
  | nil =>
    obtain ⟨h1, h2, h3⟩ := h
    exact ⟨Int.le_refl _, Int.le_refl _, by dsimp only; omega, trivial⟩
  | cons c l ih =>
    obtain ⟨⟨h1, h2, h3, h4⟩, h5⟩ := h
    rw [numB_iff] at h1
    refine ⟨Int.le_refl _, Int.le_refl _, by dsimp only; omega, (ih h5).mono ?_ ?_⟩ <;> dsimp only <;> omega
theorem Right.up {f : Bool} {a b n m : Int} {l : List Ch} (h : Right f a b n m l) : Up (U a b n m l) := h.chain.up
/-- the first of what is left: a pair at hand, or the end -/
theorem Right.first {a b n m : Int} {l : List Ch} (h : Right false a b n m l) : ∃ e t, U a b n m l ++ [⟨n, m, 0⟩] = e :: t ∧ e.a = a ∧ e.b = b := by
  cases l with
  | nil =>
    obtain ⟨h1, h2, h3⟩ := h
    rw [U_nil]
    by_cases hn : n = a
    · subst hn
      exact ⟨⟨n, m, 0⟩, [], by simp [un], rfl, by dsimp only; omega⟩
    · obtain ⟨k, hk⟩ : ∃ k : Nat, (n - a).toNat = k + 1 := ⟨(n - a).toNat - 1, by omega⟩
      rw [hk, un]
      exact ⟨_, _, rfl, rfl, rfl⟩
  | cons c l =>
    obtain ⟨⟨h1, h2, h3, h4⟩, h5⟩ := h
    have hlt : a < c.A := by simpa using h4
    rw [U_cons]
    obtain ⟨k, hk⟩ : ∃ k : Nat, (c.A - a).toNat = k + 1 := ⟨(c.A - a).toNat - 1, by omega⟩
    rw [hk, un]
    exact ⟨_, _, rfl, rfl, rfl⟩
/-- a script is made again out of its pairs -/
theorem betw_U {f : Bool} {a b n m : Int} {l : List Ch} (h : Right f a b n m l) : betw a b (U a b n m l ++ [⟨n, m, 0⟩]) = l := by
  induction l generalizing f a b with
  | nil =>
    obtain ⟨h1, h2, h3⟩ := h
    rw [U_nil, betw_un, betw, if_neg (by dsimp only; omega), betw]
  | cons c l ih =>
    obtain ⟨⟨h1, h2, h3, h4⟩, h5⟩ := h
    rw [numB_iff] at h1
    have hi := ih h5
    obtain ⟨e, t, he, ha, hb⟩ := h5.first
    rw [U_cons, List.append_assoc, betw_un]
    rw [he] at hi ⊢
    rw [betw, if_neg (by omega)] at hi
    rw [betw, if_pos (by omega), hi, ha, hb]
    obtain ⟨A, AN, B, BN⟩ := c
    dsimp only at *
    congr 2 <;> omega
end Go.Proofs.Ytppdcjjkkckokaa
