/-
  Texts that belong together, joined: EdM2, EdM3, EdM4, EdMk.
-/
import Derived.Test.YtoacmaloiaeniaaPartA1

/- Edit scripts and the pairs that they keep: plain mathematics. Units: runs of one line; a script is made again out of its units. -/
namespace Go.Proofs.Ytoacmaloiaeniaa

/-- k pairs from a and b on -/
def un (a b : Int) : Nat → List Rn
  | 0 => []
  | k + 1 => ⟨a, b, 1⟩ :: un (a + 1) (b + 1) k
/-- the pairs of a run -/
def ex (r : Rn) : List Rn := un r.a r.b r.n.toNat
def exs (rs : List Rn) : List Rn := rs.flatMap ex
theorem exs_cons (r : Rn) (rs : List Rn) : exs (r :: rs) = ex r ++ exs rs := rfl
theorem mem_un {a b : Int} {k : Nat} {r : Rn} : r ∈ un a b k ↔ r.n = 1 ∧ a ≤ r.a ∧ r.a < a + k ∧ r.b - r.a = b - a := by
  induction k generalizing a b with
  | zero => simp [un]; omega
  | succ k ih =>
    rw [un, List.mem_cons, ih]
    constructor
    · rintro (rfl | h)
      · simp; omega
      · omega
    · rintro ⟨h1, h2, h3, h4⟩
      by_cases h : r.a = a
      · left
        obtain ⟨x, y, z⟩ := r
        simp only at *
        subst h h1
        have : y = b := by omega
        rw [this]
      · right
        omega
theorem mem_ex {p r : Rn} : r ∈ ex p ↔ r.n = 1 ∧ p.a ≤ r.a ∧ r.a < p.a + p.n.toNat ∧ r.b - r.a = p.b - p.a := mem_un
theorem mem_exs {ps : List Rn} {r : Rn} : r ∈ exs ps ↔ ∃ p ∈ ps, r ∈ ex p := by simp [exs]
theorem un_append (a b : Int) (i j : Nat) : un a b (i + j) = un a b i ++ un (a + i) (b + i) j := by
  induction i generalizing a b with
  | zero => simp [un]
  | succ i ih =>
    rw [show i + 1 + j = (i + j) + 1 by omega, un, un, ih]
    simp only [List.cons_append]
    congr 3 <;> omega

/-- rising runs, from a and b on -/
def Chain : Int → Int → List Rn → Prop
  | _, _, [] => True
  | a, b, r :: rs => a ≤ r.a ∧ b ≤ r.b ∧ 0 ≤ r.n ∧ Chain (r.a + r.n) (r.b + r.n) rs
theorem Chain.low {a b : Int} {rs : List Rn} (h : Chain a b rs) : ∀ r ∈ exs rs, r.n = 1 ∧ a ≤ r.a ∧ b ≤ r.b := by
  induction rs generalizing a b with
  | nil => simp [exs]
  | cons p rs ih =>
    obtain ⟨h1, h2, h3, h4⟩ := h
    intro r hr
    rw [exs_cons, List.mem_append, mem_ex] at hr
    rcases hr with hr | hr
    · omega
    · have := ih h4 r hr
      omega
theorem Chain.mono {a b a' b' : Int} {rs : List Rn} (h : Chain a b rs) (ha : a' ≤ a) (hb : b' ≤ b) : Chain a' b' rs := by
  cases rs with
  | nil => trivial
  | cons p rs => exact ⟨by have := h.1; omega, by have := h.2.1; omega, h.2.2⟩
/-- pairs in a rising row -/
def Up (l : List Rn) : Prop := l.Pairwise fun p q => p.a < q.a ∧ p.b < q.b
theorem up_un (a b : Int) (k : Nat) : Up (un a b k) := by
  induction k generalizing a b with
  | zero => exact List.Pairwise.nil
  | succ k ih =>
    refine List.Pairwise.cons (fun r hr => ?_) (ih _ _)
    rw [mem_un] at hr
    dsimp only
    omega
theorem Chain.up {a b : Int} {rs : List Rn} (h : Chain a b rs) : Up (exs rs) := by
  induction rs generalizing a b with
  | nil => exact List.Pairwise.nil
  | cons p rs ih =>
    obtain ⟨h1, h2, h3, h4⟩ := h
    rw [exs_cons]
    refine List.pairwise_append.2 ⟨up_un _ _ _, ih h4, fun r hr q hq => ?_⟩
    rw [mem_ex] at hr
    have := h4.low q hq
    omega
/-- two rising rows of the same pairs are one -/
theorem up_ext {l k : List Rn} (hl : Up l) (hk : Up k) (h : ∀ r, r ∈ l ↔ r ∈ k) : l = k := by
  induction l generalizing k with
  | nil =>
    cases k with
    | nil => rfl
    | cons y t => have := (h y).2 (List.mem_cons_self ..); simp at this
  | cons x t ih =>
    cases k with
    | nil => have := (h x).1 (List.mem_cons_self ..); simp at this
    | cons y u =>
      unfold Up at hl hk
      rw [List.pairwise_cons] at hl hk
      have e : x = y := by
        have h1 := (h x).1 (List.mem_cons_self ..)
        have h2 := (h y).2 (List.mem_cons_self ..)
        rw [List.mem_cons] at h1 h2
        rcases h1 with h1 | h1
        · exact h1
        · rcases h2 with h2 | h2
          · exact h2.symm
          · have := hl.1 y h2
            have := hk.1 x h1
            omega
      subst e
      rw [ih hl.2 hk.2 fun r => ?_]
      have hr := h r
      rw [List.mem_cons, List.mem_cons] at hr
      constructor
      · intro hrt
        rcases hr.1 (.inr hrt) with e | e
        · subst e; have := hl.1 _ hrt; omega
        · exact e
      · intro hru
        rcases hr.2 (.inr hru) with e | e
        · subst e; have := hk.1 _ hru; omega
        · exact e

/-- the changes between what is kept -/
def betw : Int → Int → List Rn → List Ch
  | _, _, [] => []
  | a, b, r :: rs => if a < r.a ∨ b < r.b then ⟨a, r.a - a, b, r.b - b⟩ :: betw (r.a + r.n) (r.b + r.n) rs else betw (r.a + r.n) (r.b + r.n) rs
theorem betw_un (a b : Int) (k : Nat) (e : List Rn) : betw a b (un a b k ++ e) = betw (a + k) (b + k) e := by
  induction k generalizing a b with
  | zero => simp [un]
  | succ k ih =>
    rw [un, List.cons_append, betw]
    rw [if_neg (by simp)]
    dsimp only
    rw [ih]
    congr 1 <;> omega
theorem betw_ex (a b : Int) (r : Rn) (hr : 0 < r.n) (e : List Rn) : betw a b (r :: e) = betw a b (ex r ++ e) := by
  obtain ⟨x, y, n⟩ := r
  obtain ⟨k, rfl⟩ : ∃ k : Nat, n = ((k + 1 : Nat) : Int) := ⟨n.toNat - 1, by dsimp only at hr; omega⟩
  unfold ex
  dsimp only
  rw [Int.toNat_natCast, un, List.cons_append, betw, betw]
  have h := betw_un (x + 1) (y + 1) k e
  dsimp only
  rw [h]
  rw [show x + 1 + (k : Int) = x + ((k + 1 : Nat) : Int) by omega, show y + 1 + (k : Int) = y + ((k + 1 : Nat) : Int) by omega]
theorem betw_exs (a b : Int) (rs : List Rn) (h : ∀ r ∈ rs, 0 < r.n) (e : List Rn) : betw a b (rs ++ e) = betw a b (exs rs ++ e) := by
  induction rs generalizing a b with
  | nil => rfl
  | cons r rs ih =>
    have h1 := betw_ex a b r (h r (List.mem_cons_self ..)) (exs rs ++ e)
    rw [exs_cons, List.append_assoc, ← h1, List.cons_append, betw, betw]
    have := ih (r.a + r.n) (r.b + r.n) fun q hq => h q (List.mem_cons_of_mem _ hq)
    rw [this]

/-- what a script keeps, as runs -/
def rns (a b n m : Int) (l : List Ch) : List Rn := (piecesL a b n m l).map (·.1)
/-- what a script keeps, pair by pair -/
def U (a b n m : Int) (l : List Ch) : List Rn := exs (rns a b n m l)
theorem U_nil (a b n m : Int) : U a b n m [] = un a b (n - a).toNat := by simp [U, rns, piecesL, exs, ex]
theorem U_cons (a b n m : Int) (c : Ch) (l : List Ch) : U a b n m (c :: l) = un a b (c.A - a).toNat ++ U (c.A + c.AN) (c.B + c.BN) n m l := by
  simp [U, rns, piecesL, exs, ex]
theorem Right.chain {f : Bool} {a b n m : Int} {l : List Ch} (h : Right f a b n m l) : Chain a b (rns a b n m l) := by
  induction l generalizing f a b with
  | nil =>
    obtain ⟨h1, h2, h3⟩ := h
    exact ⟨Int.le_refl _, Int.le_refl _, by dsimp only; omega, trivial⟩
  | cons c l ih =>
    obtain ⟨⟨h1, h2, h3, h4⟩, h5⟩ := h
    rw [numB_iff] at h1
    refine ⟨Int.le_refl _, Int.le_refl _, by dsimp only; omega, (ih h5).mono ?_ ?_⟩ <;> dsimp only <;> omega
theorem Right.up {f : Bool} {a b n m : Int} {l : List Ch} (h : Right f a b n m l) : Up (U a b n m l) := h.chain.up
/-- the first of what is left: a pair at hand, or the end -/
theorem Right.first {a b n m : Int} {l : List Ch} (h : Right false a b n m l) : ∃ e t, U a b n m l ++ [⟨n, m, 0⟩] = e :: t ∧ e.a = a ∧ e.b = b := by
  cases l with
  | nil =>
    obtain ⟨h1, h2, h3⟩ := h
    rw [U_nil]
    by_cases hn : n = a
    · subst hn
      exact ⟨⟨n, m, 0⟩, [], by simp [un], rfl, by dsimp only; omega⟩
    · obtain ⟨k, hk⟩ : ∃ k : Nat, (n - a).toNat = k + 1 := ⟨(n - a).toNat - 1, by omega⟩
      rw [hk, un]
      exact ⟨_, _, rfl, rfl, rfl⟩
  | cons c l =>
    obtain ⟨⟨h1, h2, h3, h4⟩, h5⟩ := h
    have hlt : a < c.A := by simpa using h4
    rw [U_cons]
    obtain ⟨k, hk⟩ : ∃ k : Nat, (c.A - a).toNat = k + 1 := ⟨(c.A - a).toNat - 1, by omega⟩
    rw [hk, un]
    exact ⟨_, _, rfl, rfl, rfl⟩
/-- a script is made again out of its pairs -/
theorem betw_U {f : Bool} {a b n m : Int} {l : List Ch} (h : Right f a b n m l) : betw a b (U a b n m l ++ [⟨n, m, 0⟩]) = l := by
  induction l generalizing f a b with
  | nil =>
    obtain ⟨h1, h2, h3⟩ := h
    rw [U_nil, betw_un, betw, if_neg (by dsimp only; omega), betw]
  | cons c l ih =>
    obtain ⟨⟨h1, h2, h3, h4⟩, h5⟩ := h
    rw [numB_iff] at h1
    have hi := ih h5
    obtain ⟨e, t, he, ha, hb⟩ := h5.first
    rw [U_cons, List.append_assoc, betw_un]
    rw [he] at hi ⊢
    rw [betw, if_neg (by omega)] at hi
    rw [betw, if_pos (by omega), hi, ha, hb]
    obtain ⟨A, AN, B, BN⟩ := c
    dsimp only at *
    congr 2 <;> omega
end Go.Proofs.Ytoacmaloiaeniaa

/- Edit scripts and the pairs that they keep, further: pairs that fit make a right script; what is kept as a list; two scripts one behind the other; going back. -/
namespace Go.Proofs.Ytoacmaloiaeniaa

/-- pairs in a rising row, from a and b on, below n and m -/
def Fit : Int → Int → Int → Int → List Rn → Prop
  | a, b, n, m, [] => a ≤ n ∧ b ≤ m
  | a, b, n, m, r :: P => a ≤ r.a ∧ b ≤ r.b ∧ r.n = 1 ∧ Fit (r.a + 1) (r.b + 1) n m P
theorem Fit.le {a b n m : Int} {P : List Rn} (h : Fit a b n m P) : a ≤ n ∧ b ≤ m := by
  induction P generalizing a b with
  | nil => exact h
  | cons r P ih => have := ih h.2.2.2; have h1 := h.1; have h2 := h.2.1; omega
theorem right_step {x y n m : Int} {l : List Ch} (h : Right true (x + 1) (y + 1) n m l) : (∀ f, Right f x y n m l) ∧ U x y n m l = ⟨x, y, 1⟩ :: U (x + 1) (y + 1) n m l := by
  cases l with
  | nil =>
    obtain ⟨h1, h2, h3⟩ := h
    refine ⟨fun f => ⟨by omega, by omega, by omega⟩, ?_⟩
    rw [U_nil, U_nil, show (n - x).toNat = (n - (x + 1)).toNat + 1 by omega, un]
  | cons c l =>
    obtain ⟨⟨h1, h2, h3, h4⟩, h5⟩ := h
    refine ⟨fun f => ⟨⟨h1, by omega, by omega, .inr (by omega)⟩, h5⟩, ?_⟩
    rw [U_cons, U_cons, show (c.A - x).toNat = (c.A - (x + 1)).toNat + 1 by omega, un, List.cons_append]
/-- pairs that fit make a right script that keeps just them -/
theorem fit_right {a b n m : Int} {P : List Rn} (h : Fit a b n m P) (ha : 0 ≤ a) (hb : 0 ≤ b) (hn : n ≤ 2147483647) (hm : m ≤ 2147483647) :
    Right true a b n m (betw a b (P ++ [⟨n, m, 0⟩])) ∧ U a b n m (betw a b (P ++ [⟨n, m, 0⟩])) = P := by
  induction P generalizing a b with
  | nil =>
    obtain ⟨h1, h2⟩ := h
    rw [List.nil_append, betw]
    dsimp only
    split
    · rw [betw]
      refine ⟨⟨⟨by rw [numB_iff]; dsimp only; omega, by dsimp only; omega, by dsimp only; omega, .inl rfl⟩, ⟨by dsimp only; omega, by dsimp only; omega, by dsimp only; omega⟩⟩, ?_⟩
      rw [U_cons, U_nil]
      dsimp only
      rw [show (a - a).toNat = 0 by omega, show (n - (a + (n - a))).toNat = 0 by omega]
      rfl
    · rw [betw]
      refine ⟨⟨h1, h2, by omega⟩, ?_⟩
      rw [U_nil, show (n - a).toNat = 0 by omega]
      rfl
  | cons r P ih =>
    obtain ⟨x, y, z⟩ := r
    obtain ⟨h1, h2, h3, h4⟩ := h
    dsimp only at h1 h2 h3 h4
    subst h3
    obtain ⟨i1, i2⟩ := ih h4 (by omega) (by omega)
    obtain ⟨s1, s2⟩ := right_step i1
    have hle := h4.le
    rw [List.cons_append, betw]
    dsimp only
    split
    · refine ⟨⟨⟨by rw [numB_iff]; dsimp only; omega, by dsimp only; omega, by dsimp only; omega, .inl rfl⟩, ?_⟩, ?_⟩
      · dsimp only
        rw [show a + (x - a) = x by omega, show b + (y - b) = y by omega]
        exact s1 false
      · rw [U_cons]
        dsimp only
        rw [show a + (x - a) = x by omega, show b + (y - b) = y by omega, s2, i2, show (a - a).toNat = 0 by omega]
        rfl
    · obtain rfl : x = a := by omega
      obtain rfl : y = b := by omega
      refine ⟨s1 true, ?_⟩
      rw [s2, i2]
theorem fit_of_up {a b n m : Int} {P : List Rn} (hu : Up P) (h : ∀ r ∈ P, r.n = 1 ∧ a ≤ r.a ∧ r.a < n ∧ b ≤ r.b ∧ r.b < m) (hn : a ≤ n) (hm : b ≤ m) : Fit a b n m P := by
  induction P generalizing a b with
  | nil => exact ⟨hn, hm⟩
  | cons r P ih =>
    unfold Up at hu
    rw [List.pairwise_cons] at hu
    have h0 := h r (List.mem_cons_self ..)
    refine ⟨h0.2.1, h0.2.2.2.1, h0.1, ih hu.2 (fun q hq => ?_) (by omega) (by omega)⟩
    have h1 := h q (List.mem_cons_of_mem _ hq)
    have h2 := hu.1 q hq
    omega
theorem Right.bounds {f : Bool} {a b n m : Int} {l : List Ch} (h : Right f a b n m l) : ∀ r ∈ U a b n m l, r.n = 1 ∧ a ≤ r.a ∧ r.a < n ∧ b ≤ r.b ∧ r.b < m := by
  induction l generalizing f a b with
  | nil =>
    obtain ⟨h1, h2, h3⟩ := h
    intro r hr
    rw [U_nil, mem_un] at hr
    omega
  | cons c l ih =>
    obtain ⟨⟨h1, h2, h3, h4⟩, h5⟩ := h
    rw [numB_iff] at h1
    have hle := h5.le
    intro r hr
    rw [U_cons, List.mem_append, mem_un] at hr
    rcases hr with hr | hr
    · omega
    · have := ih h5 r hr
      omega

/-- pairs out of what is kept as a list -/
def keptR : Int → List Int → List Rn
  | _, [] => []
  | i, z :: t => if z = -1 then keptR (i + 1) t else ⟨i, z, 1⟩ :: keptR (i + 1) t
theorem keptR_append (i : Int) (X Y : List Int) : keptR i (X ++ Y) = keptR i X ++ keptR (i + X.length) Y := by
  induction X generalizing i with
  | nil => simp [keptR]
  | cons z t ih =>
    rw [List.cons_append, keptR, keptR, ih]
    rw [show i + 1 + (t.length : Int) = i + ((z :: t).length : Int) by simp; omega]
    split <;> simp
theorem keptR_none (i : Int) (k : Nat) : keptR i (List.replicate k (-1)) = [] := by
  induction k generalizing i with
  | zero => rfl
  | succ k ih => rw [List.replicate_succ, keptR, if_pos rfl, ih]
theorem keptR_run (i b : Int) (hb : 0 ≤ b) (k : Nat) : keptR i ((List.range k).map fun (j : Nat) => b + (j : Int)) = un i b k := by
  induction k generalizing i b with
  | zero => rfl
  | succ k ih =>
    rw [List.range_succ_eq_map, List.map_cons, List.map_map, keptR, if_neg (by simp; omega), un]
    have := ih (i + 1) (b + 1) (by omega)
    rw [← this]
    simp only [Int.natCast_zero, Int.add_zero]
    congr 2
    apply List.map_congr_left
    intro j _
    simp
    omega
theorem mem_keptR {i : Int} {K : List Int} {r : Rn} : r ∈ keptR i K ↔ r.n = 1 ∧ i ≤ r.a ∧ K[(r.a - i).toNat]? = some r.b ∧ r.b ≠ -1 := by
  induction K generalizing i with
  | nil => simp [keptR]
  | cons z t ih =>
    rw [keptR]
    have key : (r.n = 1 ∧ i + 1 ≤ r.a ∧ t[(r.a - (i + 1)).toNat]? = some r.b ∧ r.b ≠ -1) ↔ (r.n = 1 ∧ i + 1 ≤ r.a ∧ (z :: t)[(r.a - i).toNat]? = some r.b ∧ r.b ≠ -1) := by
      by_cases h : i + 1 ≤ r.a
      · rw [show (r.a - i).toNat = (r.a - (i + 1)).toNat + 1 by omega, List.getElem?_cons_succ]
      · constructor <;> (intro h1; omega)
    split
    · rename_i hz
      rw [ih, key]
      constructor
      · rintro ⟨h1, h2, h3, h4⟩
        exact ⟨h1, by omega, h3, h4⟩
      · rintro ⟨h1, h2, h3, h4⟩
        refine ⟨h1, ?_, h3, h4⟩
        by_cases h : r.a = i
        · rw [show (r.a - i).toNat = 0 by omega, List.getElem?_cons_zero, Option.some_inj] at h3
          omega
        · omega
    · rename_i hz
      rw [List.mem_cons, ih, key]
      constructor
      · rintro (rfl | ⟨h1, h2, h3, h4⟩)
        · simp [hz]
        · exact ⟨h1, by omega, h3, h4⟩
      · rintro ⟨h1, h2, h3, h4⟩
        by_cases h : r.a = i
        · left
          rw [show (r.a - i).toNat = 0 by omega, List.getElem?_cons_zero, Option.some_inj] at h3
          obtain ⟨x, y, w⟩ := r
          dsimp only at *
          rw [h, h1, h3]
        · exact .inr ⟨h1, by omega, h3, h4⟩
theorem keptR_ge {i : Int} {K : List Int} : ∀ r ∈ keptR i K, i ≤ r.a := fun _ hr => (mem_keptR.1 hr).2.1
/-- in order of the first text -/
def UpA (l : List Rn) : Prop := l.Pairwise fun p q => p.a < q.a
theorem Up.a {l : List Rn} (h : Up l) : UpA l := h.imp fun h => h.1
theorem keptR_up (i : Int) (K : List Int) : UpA (keptR i K) := by
  induction K generalizing i with
  | nil => exact List.Pairwise.nil
  | cons z t ih =>
    rw [keptR]
    split
    · exact ih _
    · exact List.Pairwise.cons (fun r hr => by have := keptR_ge r hr; dsimp only; omega) (ih _)
theorem upA_ext {l k : List Rn} (hl : UpA l) (hk : UpA k) (h : ∀ r, r ∈ l ↔ r ∈ k) : l = k := by
  induction l generalizing k with
  | nil =>
    cases k with
    | nil => rfl
    | cons y t => have := (h y).2 (List.mem_cons_self ..); simp at this
  | cons x t ih =>
    cases k with
    | nil => have := (h x).1 (List.mem_cons_self ..); simp at this
    | cons y u =>
      unfold UpA at hl hk
      rw [List.pairwise_cons] at hl hk
      have e : x = y := by
        have h1 := (h x).1 (List.mem_cons_self ..)
        have h2 := (h y).2 (List.mem_cons_self ..)
        rw [List.mem_cons] at h1 h2
        rcases h1 with h1 | h1
        · exact h1
        · rcases h2 with h2 | h2
          · exact h2.symm
          · have := hl.1 y h2
            have := hk.1 x h1
            omega
      subst e
      rw [ih hl.2 hk.2 fun r => ?_]
      have hr := h r
      rw [List.mem_cons, List.mem_cons] at hr
      constructor
      · intro hrt
        rcases hr.1 (.inr hrt) with e | e
        · subst e; have := hl.1 _ hrt; omega
        · exact e
      · intro hru
        rcases hr.2 (.inr hru) with e | e
        · subst e; have := hk.1 _ hru; omega
        · exact e

/-- what the rest of a script keeps -/
def kr (a b n m : Int) (l : List Ch) : List Int := (piecesL a b n m l).flatMap pk
theorem kr_nil (a b n m : Int) : kr a b n m [] = (List.range (n - a).toNat).map fun (j : Nat) => b + (j : Int) := by simp [kr, piecesL, pk]
theorem kr_cons (a b n m : Int) (c : Ch) (l : List Ch) : kr a b n m (c :: l) = ((List.range (c.A - a).toNat).map fun (j : Nat) => b + (j : Int)) ++ List.replicate c.AN.toNat (-1) ++ kr (c.A + c.AN) (c.B + c.BN) n m l := by
  simp [kr, piecesL, pk]
theorem kr_length {f : Bool} {a b n m : Int} {l : List Ch} (h : Right f a b n m l) : (kr a b n m l).length = (n - a).toNat := by
  induction l generalizing f a b with
  | nil => rw [kr_nil]; simp
  | cons c l ih =>
    obtain ⟨⟨h1, h2, h3, h4⟩, h5⟩ := h
    rw [numB_iff] at h1
    have hle := h5.le
    rw [kr_cons]
    simp only [List.length_append, List.length_map, List.length_range, List.length_replicate, ih h5]
    omega
theorem kr_kept {f : Bool} {a b n m : Int} {l : List Ch} (h : Right f a b n m l) (hb : 0 ≤ b) : keptR a (kr a b n m l) = U a b n m l := by
  induction l generalizing f a b with
  | nil => rw [kr_nil, U_nil, keptR_run _ _ hb]
  | cons c l ih =>
    obtain ⟨⟨h1, h2, h3, h4⟩, h5⟩ := h
    rw [numB_iff] at h1
    rw [kr_cons, U_cons, keptR_append, keptR_append, keptR_run _ _ hb, keptR_none, List.append_nil]
    simp only [List.length_append, List.length_map, List.length_range, List.length_replicate]
    rw [show a + (((c.A - a).toNat + c.AN.toNat : Nat) : Int) = c.A + c.AN by omega, ih h5 (by omega)]
theorem kr_each {f : Bool} {a b n m : Int} {l : List Ch} (h : Right f a b n m l) (hb : 0 ≤ b) : ∀ z ∈ kr a b n m l, z = -1 ∨ (0 ≤ z ∧ z < m) := by
  induction l generalizing f a b with
  | nil =>
    obtain ⟨h1, h2, h3⟩ := h
    intro z hz
    rw [kr_nil, List.mem_map] at hz
    obtain ⟨j, hj, rfl⟩ := hz
    rw [List.mem_range] at hj
    omega
  | cons c l ih =>
    obtain ⟨⟨h1, h2, h3, h4⟩, h5⟩ := h
    rw [numB_iff] at h1
    have hle := h5.le
    intro z hz
    rw [kr_cons, List.mem_append, List.mem_append, List.mem_map] at hz
    rcases hz with (⟨j, hj, rfl⟩ | hz) | hz
    · rw [List.mem_range] at hj
      omega
    · exact .inl (List.eq_of_mem_replicate hz)
    · exact ih h5 (by omega) z hz
/-- a list of what is kept is told by its pairs and its length -/
theorem kept_inj {i : Int} {K L : List Int} (hl : K.length = L.length) (h : keptR i K = keptR i L) : K = L := by
  apply List.ext_getElem? 
  intro k
  by_cases hk : k < K.length
  · have hk' : k < L.length := by omega
    rw [List.getElem?_eq_getElem hk, List.getElem?_eq_getElem hk', Option.some_inj]
    have h1 : ∀ z, z ≠ -1 → (K[k]? = some z ↔ L[k]? = some z) := by
      intro z hz
      have m1 := mem_keptR (i := i) (K := K) (r := ⟨i + k, z, 1⟩)
      have m2 := mem_keptR (i := i) (K := L) (r := ⟨i + k, z, 1⟩)
      dsimp only at m1 m2
      rw [show (i + (k : Int) - i).toNat = k by omega] at m1 m2
      rw [h, m2] at m1
      constructor
      · intro h3
        exact (m1.2 ⟨rfl, by omega, h3, hz⟩).2.2.1
      · intro h3
        exact (m1.1 ⟨rfl, by omega, h3, hz⟩).2.2.1
    by_cases e : K[k] = -1
    · by_cases e2 : L[k] = -1
      · rw [e, e2]
      · have := (h1 L[k] e2).2 (List.getElem?_eq_getElem hk')
        rw [List.getElem?_eq_getElem hk, Option.some_inj] at this
        exact this
    · have := (h1 K[k] e).1 (List.getElem?_eq_getElem hk)
      rw [List.getElem?_eq_getElem hk', Option.some_inj] at this
      exact this.symm
  · rw [List.getElem?_eq_none (by omega), List.getElem?_eq_none (by omega)]

/-- lists of what is kept that make a script: each number from nx on, below m, rising -/
def Vk : Int → Int → List Int → Prop
  | _, _, [] => True
  | nx, m, z :: t => (z = -1 ∧ Vk nx m t) ∨ (z ≠ -1 ∧ nx ≤ z ∧ z < m ∧ Vk (z + 1) m t)
theorem Vk.fit {nx m i : Int} {K : List Int} (h : Vk nx m K) (hm : nx ≤ m) : Fit i nx (i + K.length) m (keptR i K) := by
  have wk : ∀ {a b n m : Int} {P : List Rn}, Fit (a + 1) b n m P → Fit a b n m P := by
    intro a b n m P h
    cases P with
    | nil => exact ⟨by have := h.1; omega, h.2⟩
    | cons r P => exact ⟨by have := h.1; omega, h.2⟩
  induction K generalizing nx i with
  | nil => exact ⟨by simp, hm⟩
  | cons z t ih =>
    rw [keptR]
    rcases h with ⟨rfl, h⟩ | ⟨hz, h1, h2, h3⟩
    · rw [if_pos rfl]
      have := ih h hm (i := i + 1)
      rw [show i + 1 + (t.length : Int) = i + ((-1 :: t).length : Int) by simp; omega] at this
      exact wk this
    · rw [if_neg hz]
      have := ih h3 (by omega) (i := i + 1)
      rw [show i + 1 + (t.length : Int) = i + ((z :: t).length : Int) by simp; omega] at this
      exact ⟨Int.le_refl _, h1, rfl, this⟩
theorem Vk.each {nx m : Int} {K : List Int} (h : Vk nx m K) (h0 : 0 ≤ nx) : ∀ z ∈ K, z = -1 ∨ 0 ≤ z := by
  induction K generalizing nx with
  | nil => simp
  | cons y t ih =>
    intro z hz
    rw [List.mem_cons] at hz
    rcases h with ⟨rfl, h⟩ | ⟨hy, h1, h2, h3⟩
    · rcases hz with rfl | hz
      · exact .inl rfl
      · exact ih h h0 z hz
    · rcases hz with rfl | hz
      · right; omega
      · exact ih h3 (by omega) z hz
theorem vk_of_fit {i nx n m : Int} {K : List Int} (h : Fit i nx n m (keptR i K)) : Vk nx m K := by
  induction K generalizing i nx with
  | nil => trivial
  | cons z t ih =>
    rw [keptR] at h
    by_cases hz : z = -1
    · rw [if_pos hz] at h
      left
      refine ⟨hz, ?_⟩
      by_cases hin : i + 1 ≤ n
      · refine ih (i := i + 1) ?_
        revert h
        have hge := keptR_ge (i := i + 1) (K := t)
        generalize keptR (i + 1) t = P at hge ⊢
        intro h
        cases P with
        | nil => exact ⟨hin, h.2⟩
        | cons r P => exact ⟨hge r (List.mem_cons_self ..), h.2⟩
      · have hge := keptR_ge (i := i + 1) (K := t)
        have hnil : keptR (i + 1) t = [] := by
          cases hk : keptR (i + 1) t with
          | nil => rfl
          | cons r P =>
            rw [hk] at h hge
            have := hge r (List.mem_cons_self ..)
            have := h.2.2.2.le
            omega
        have hall : ∀ z ∈ t, z = -1 := by
          intro z hz
          obtain ⟨k, hk⟩ := List.getElem?_of_mem hz
          apply Classical.byContradiction
          intro hne
          have := mem_keptR (i := i + 1) (K := t) (r := ⟨i + 1 + k, z, 1⟩)
          dsimp only at this
          rw [hnil, show (i + 1 + (k : Int) - (i + 1)).toNat = k by omega] at this
          have := this.2 ⟨rfl, by omega, hk, hne⟩
          simp at this
        clear hnil hge h ih
        induction t with
        | nil => trivial
        | cons y t ih => exact .inl ⟨hall y (List.mem_cons_self ..), ih fun z hz => hall z (List.mem_cons_of_mem _ hz)⟩
    · rw [if_neg hz] at h
      obtain ⟨h1, h2, h3, h4⟩ := h
      dsimp only at h1 h2 h4
      exact .inr ⟨hz, h2, by have := h4.le; omega, ih h4⟩
end Go.Proofs.Ytoacmaloiaeniaa

/- Two scripts one behind the other: the pairs of both; associative, and one that keeps all adds nothing. -/
namespace Go.Proofs.Ytoacmaloiaeniaa

/-- what two scripts keep, run by run -/
def bothR : List Rn → List Rn → List Rn
  | [], _ => []
  | _ :: _, [] => []
  | p :: x, q :: y =>
    (if max p.b q.a < min (p.b + p.n) (q.a + q.n) then [⟨p.a + (max p.b q.a - p.b), q.b + (max p.b q.a - q.a), min (p.b + p.n) (q.a + q.n) - max p.b q.a⟩] else []) ++
      if min (p.b + p.n) (q.a + q.n) = p.b + p.n then bothR x (q :: y) else bothR (p :: x) y

theorem up_cmp {l : List Rn} (h : Up l) : ∀ r ∈ l, ∀ s ∈ l, r = s ∨ (r.a < s.a ∧ r.b < s.b) ∨ (s.a < r.a ∧ s.b < r.b) := by
  induction l with
  | nil => simp
  | cons x t ih =>
    unfold Up at h
    rw [List.pairwise_cons] at h
    intro r hr s hs
    rw [List.mem_cons] at hr hs
    rcases hr with rfl | hr
    · rcases hs with rfl | hs
      · exact .inl rfl
      · exact .inr (.inl (h.1 s hs))
    · rcases hs with rfl | hs
      · exact .inr (.inr (h.1 r hr))
      · exact ih h.2 r hr s hs
theorem exs_append (x y : List Rn) : exs (x ++ y) = exs x ++ exs y := by simp [exs]
theorem exs_one (r : Rn) : exs [r] = ex r := by simp [exs]

theorem both_head (p q : Rn) (hp : 0 ≤ p.n) (hq : 0 ≤ q.n) (i j : Int) : (⟨i, j, 1⟩ : Rn) ∈ exs (if max p.b q.a < min (p.b + p.n) (q.a + q.n) then [⟨p.a + (max p.b q.a - p.b), q.b + (max p.b q.a - q.a), min (p.b + p.n) (q.a + q.n) - max p.b q.a⟩] else []) ↔ ∃ t, (⟨i, t, 1⟩ : Rn) ∈ ex p ∧ (⟨t, j, 1⟩ : Rn) ∈ ex q := by
  obtain ⟨F, hF, f1, f2, f3⟩ : ∃ F, max p.b q.a = F ∧ p.b ≤ F ∧ q.a ≤ F ∧ (F = p.b ∨ F = q.a) := ⟨_, rfl, by omega, by omega, by omega⟩
  obtain ⟨T, hT, t1, t2, t3⟩ : ∃ T, min (p.b + p.n) (q.a + q.n) = T ∧ T ≤ p.b + p.n ∧ T ≤ q.a + q.n ∧ (T = p.b + p.n ∨ T = q.a + q.n) := ⟨_, rfl, by omega, by omega, by omega⟩
  rw [hF, hT]
  clear hF hT
  simp only [mem_ex]
  obtain ⟨k, hk⟩ : ∃ k : Nat, p.n.toNat = k := ⟨_, rfl⟩
  obtain ⟨o, ho⟩ : ∃ o : Nat, q.n.toNat = o := ⟨_, rfl⟩
  have hk' : p.n = k := by omega
  have ho' : q.n = o := by omega
  rw [hk, ho]
  rw [hk'] at t1 t3
  rw [ho'] at t2 t3
  split
  · rw [exs_one, mem_ex]
    dsimp only
    obtain ⟨u, hu⟩ : ∃ u : Nat, (T - F).toNat = u := ⟨_, rfl⟩
    have hu' : T - F = u := by omega
    rw [hu]
    constructor
    · rintro ⟨_, h1, h2, h3⟩
      exact ⟨i - p.a + p.b, ⟨trivial, by omega, by omega, by omega⟩, trivial, by omega, by omega, by omega⟩
    · rintro ⟨t, ⟨_, h1, h2, h3⟩, _, h4, h5, h6⟩
      exact ⟨rfl, by omega, by omega, by omega⟩
  · constructor
    · intro h; simp [exs] at h
    · rintro ⟨t, ⟨_, h1, h2, h3⟩, _, h4, h5, h6⟩
      omega

theorem both_spec (X Y : List Rn) (a b c d : Int) (hX : Chain a b X) (hY : Chain c d Y) :
    (∀ i j, (⟨i, j, 1⟩ : Rn) ∈ exs (bothR X Y) ↔ ∃ t, (⟨i, t, 1⟩ : Rn) ∈ exs X ∧ (⟨t, j, 1⟩ : Rn) ∈ exs Y) ∧ (∀ r ∈ bothR X Y, 0 < r.n) ∧ Up (exs (bothR X Y)) := by
  induction X, Y using bothR.induct generalizing a b c d with
  | case1 Y => rw [bothR]; exact ⟨by simp [exs], by simp, List.Pairwise.nil⟩
  | case2 p x => rw [bothR]; exact ⟨by simp [exs], by simp, List.Pairwise.nil⟩
  | case3 p x q y ih1 ih2 =>
    by_cases hto : min (p.b + p.n) (q.a + q.n) = p.b + p.n
    · have ih := ih1
      obtain ⟨x1, x2, x3, x4⟩ := hX
      have hY0 := hY
      obtain ⟨y1, y2, y3, y4⟩ := hY
      obtain ⟨i1, i2, i3⟩ := ih _ _ _ _ x4 hY0
      rw [bothR, if_pos hto]
      have hhead : ∀ i j, (⟨i, j, 1⟩ : Rn) ∈ exs (if max p.b q.a < min (p.b + p.n) (q.a + q.n) then [⟨p.a + (max p.b q.a - p.b), q.b + (max p.b q.a - q.a), min (p.b + p.n) (q.a + q.n) - max p.b q.a⟩] else []) ↔ ∃ t, (⟨i, t, 1⟩ : Rn) ∈ ex p ∧ (⟨t, j, 1⟩ : Rn) ∈ ex q := both_head p q x3 y3
      refine ⟨fun i j => ?_, fun r hr => ?_, ?_⟩
      · rw [exs_append, List.mem_append, hhead, i1]
        constructor
        · rintro (⟨t, h1, h2⟩ | ⟨t, h1, h2⟩)
          · exact ⟨t, by rw [exs_cons]; exact List.mem_append_left _ h1, by rw [exs_cons]; exact List.mem_append_left _ h2⟩
          · exact ⟨t, by rw [exs_cons]; exact List.mem_append_right _ h1, h2⟩
        · rintro ⟨t, h1, h2⟩
          rw [exs_cons, List.mem_append] at h1
          rcases h1 with h1 | h1
          · rw [exs_cons, List.mem_append] at h2
            rcases h2 with h2 | h2
            · exact .inl ⟨t, h1, h2⟩
            · rw [mem_ex] at h1
              have := y4.low _ h2
              dsimp only at h1 this
              omega
          · exact .inr ⟨t, h1, h2⟩
      · rw [List.mem_append] at hr
        rcases hr with hr | hr
        · split at hr
          · rw [List.mem_singleton] at hr
            subst hr
            dsimp only
            omega
          · simp at hr
        · exact i2 r hr
      · rw [exs_append]
        refine List.pairwise_append.2 ⟨?_, i3, fun r hr s hs => ?_⟩
        · split
          · rw [exs_one]; exact up_un _ _ _
          · exact List.Pairwise.nil
        · obtain ⟨i, j, z⟩ := r
          have hz : z = 1 := by
            split at hr
            · rw [exs_one, mem_ex] at hr; exact hr.1
            · simp [exs] at hr
          subst hz
          obtain ⟨t, h1, h2⟩ := (hhead i j).1 hr
          obtain ⟨i', j', z'⟩ := s
          have hz' : z' = 1 := by
            rw [mem_exs] at hs
            obtain ⟨p', _, hp⟩ := hs
            rw [mem_ex] at hp
            exact hp.1
          subst hz'
          obtain ⟨t', h3, h4⟩ := (i1 i' j').1 hs
          have l3 := x4.low _ h3
          rw [mem_ex] at h1
          dsimp only at h1 l3 ⊢
          refine ⟨by omega, ?_⟩
          have hc := up_cmp hY0.up ⟨t, j, 1⟩ (by rw [exs_cons]; exact List.mem_append_left _ h2) ⟨t', j', 1⟩ h4
          rcases hc with hc | hc | hc
          · cases hc; omega
          · exact hc.2
          · dsimp only at hc; omega
    · have ih := ih2
      have hX0 := hX
      obtain ⟨x1, x2, x3, x4⟩ := hX
      obtain ⟨y1, y2, y3, y4⟩ := hY
      obtain ⟨i1, i2, i3⟩ := ih _ _ _ _ hX0 y4
      rw [bothR, if_neg hto]
      have hhead : ∀ i j, (⟨i, j, 1⟩ : Rn) ∈ exs (if max p.b q.a < min (p.b + p.n) (q.a + q.n) then [⟨p.a + (max p.b q.a - p.b), q.b + (max p.b q.a - q.a), min (p.b + p.n) (q.a + q.n) - max p.b q.a⟩] else []) ↔ ∃ t, (⟨i, t, 1⟩ : Rn) ∈ ex p ∧ (⟨t, j, 1⟩ : Rn) ∈ ex q := both_head p q x3 y3
      refine ⟨fun i j => ?_, fun r hr => ?_, ?_⟩
      · rw [exs_append, List.mem_append, hhead, i1]
        constructor
        · rintro (⟨t, h1, h2⟩ | ⟨t, h1, h2⟩)
          · exact ⟨t, by rw [exs_cons]; exact List.mem_append_left _ h1, by rw [exs_cons]; exact List.mem_append_left _ h2⟩
          · exact ⟨t, h1, by rw [exs_cons]; exact List.mem_append_right _ h2⟩
        · rintro ⟨t, h1, h2⟩
          rw [exs_cons, List.mem_append] at h2
          rcases h2 with h2 | h2
          · rw [exs_cons, List.mem_append] at h1
            rcases h1 with h1 | h1
            · exact .inl ⟨t, h1, h2⟩
            · rw [mem_ex] at h2
              have := x4.low _ h1
              dsimp only at h2 this
              omega
          · exact .inr ⟨t, h1, h2⟩
      · rw [List.mem_append] at hr
        rcases hr with hr | hr
        · split at hr
          · rw [List.mem_singleton] at hr
            subst hr
            dsimp only
            omega
          · simp at hr
        · exact i2 r hr
      · rw [exs_append]
        refine List.pairwise_append.2 ⟨?_, i3, fun r hr s hs => ?_⟩
        · split
          · rw [exs_one]; exact up_un _ _ _
          · exact List.Pairwise.nil
        · obtain ⟨i, j, z⟩ := r
          have hz : z = 1 := by
            split at hr
            · rw [exs_one, mem_ex] at hr; exact hr.1
            · simp [exs] at hr
          subst hz
          obtain ⟨t, h1, h2⟩ := (hhead i j).1 hr
          obtain ⟨i', j', z'⟩ := s
          have hz' : z' = 1 := by
            rw [mem_exs] at hs
            obtain ⟨p', _, hp⟩ := hs
            rw [mem_ex] at hp
            exact hp.1
          subst hz'
          obtain ⟨t', h3, h4⟩ := (i1 i' j').1 hs
          have l4 := y4.low _ h4
          rw [mem_ex] at h2
          dsimp only at h2 l4 ⊢
          refine ⟨?_, by omega⟩
          have hc := up_cmp hX0.up ⟨i, t, 1⟩ (by rw [exs_cons]; exact List.mem_append_left _ h1) ⟨i', t', 1⟩ h3
          rcases hc with hc | hc | hc
          · cases hc; omega
          · exact hc.1
          · dsimp only at hc; omega

/-- the pairs of two scripts, one behind the other -/
def compP (x y : List Ch) (n m k : Int) : List Rn := exs (bothR (rns 0 0 n m x) (rns 0 0 m k y))
/-- two scripts, one behind the other -/
def compS (x y : List Ch) (n m k : Int) : List Ch := betw 0 0 (bothR (rns 0 0 n m x) (rns 0 0 m k y) ++ [⟨n, k, 0⟩])
section
variable {x y : List Ch} {n m k : Int}
theorem comp_spec (hx : Script x n m) (hy : Script y m k) : (∀ i j, (⟨i, j, 1⟩ : Rn) ∈ compP x y n m k ↔ ∃ t, (⟨i, t, 1⟩ : Rn) ∈ U 0 0 n m x ∧ (⟨t, j, 1⟩ : Rn) ∈ U 0 0 m k y) ∧ Up (compP x y n m k) ∧ compS x y n m k = betw 0 0 (compP x y n m k ++ [⟨n, k, 0⟩]) := by
  obtain ⟨h1, h2, h3⟩ := both_spec _ _ _ _ _ _ hx.2.2.chain hy.2.2.chain
  exact ⟨h1, h3, betw_exs _ _ _ h2 _⟩
theorem comp_unit : ∀ r ∈ compP x y n m k, r.n = 1 := by
  intro r hr
  unfold compP at hr
  rw [mem_exs] at hr
  obtain ⟨p, _, hp⟩ := hr
  rw [mem_ex] at hp
  exact hp.1
theorem comp_fit (hx : Script x n m) (hy : Script y m k) : Fit 0 0 n k (compP x y n m k) := by
  obtain ⟨h1, h2, _⟩ := comp_spec hx hy
  refine fit_of_up h2 (fun r hr => ?_) hx.1 hy.2.1
  have hu := comp_unit r hr
  obtain ⟨i, j, z⟩ := r
  dsimp only at hu
  subst hu
  obtain ⟨t, q1, q2⟩ := (h1 i j).1 hr
  have b1 := hx.2.2.bounds _ q1
  have b2 := hy.2.2.bounds _ q2
  dsimp only at b1 b2 ⊢
  omega
theorem comp_script (hx : Script x n m) (hy : Script y m k) (hn : n ≤ 2147483647) (hk : k ≤ 2147483647) : Script (compS x y n m k) n k ∧ U 0 0 n k (compS x y n m k) = compP x y n m k := by
  obtain ⟨_, _, h3⟩ := comp_spec hx hy
  rw [h3]
  have := fit_right (comp_fit hx hy) (Int.le_refl _) (Int.le_refl _) hn hk
  exact ⟨⟨hx.1, hy.2.1, this.1⟩, this.2⟩
end
theorem unit_ext {P Q : List Rn} (hP : UpA P) (hQ : UpA Q) (p1 : ∀ r ∈ P, r.n = 1) (q1 : ∀ r ∈ Q, r.n = 1) (h : ∀ i j, (⟨i, j, 1⟩ : Rn) ∈ P ↔ (⟨i, j, 1⟩ : Rn) ∈ Q) : P = Q := by
  refine upA_ext hP hQ fun r => ?_
  obtain ⟨i, j, z⟩ := r
  constructor
  · intro hr
    have : z = 1 := p1 _ hr
    subst this
    exact (h i j).1 hr
  · intro hr
    have : z = 1 := q1 _ hr
    subst this
    exact (h i j).2 hr
theorem U_unit {f : Bool} {a b n m : Int} {l : List Ch} (h : Right f a b n m l) : ∀ r ∈ U a b n m l, r.n = 1 := fun r hr => (h.bounds r hr).1
/-- putting together is associative -/
theorem comp_assoc {x y z : List Ch} {n m k o : Int} (hx : Script x n m) (hy : Script y m k) (hz : Script z k o) (hn : n ≤ 2147483647) (hm : m ≤ 2147483647) (hk : k ≤ 2147483647) (ho : o ≤ 2147483647) :
    compS (compS x y n m k) z n k o = compS x (compS y z m k o) n m o := by
  obtain ⟨s1, u1⟩ := comp_script hx hy hn hk
  obtain ⟨s2, u2⟩ := comp_script hy hz hm ho
  obtain ⟨m1, p1, e1⟩ := comp_spec s1 hz
  obtain ⟨m2, p2, e2⟩ := comp_spec hx s2
  rw [e1, e2]
  congr 2
  refine unit_ext p1.a p2.a comp_unit comp_unit fun i j => ?_
  rw [m1, m2, u1, u2]
  constructor
  · rintro ⟨t, h1, h2⟩
    obtain ⟨s, h3, h4⟩ := ((comp_spec hx hy).1 i t).1 h1
    exact ⟨s, h3, ((comp_spec hy hz).1 s j).2 ⟨t, h4, h2⟩⟩
  · rintro ⟨s, h3, h4⟩
    obtain ⟨t, h5, h6⟩ := ((comp_spec hy hz).1 s j).1 h4
    exact ⟨t, ((comp_spec hx hy).1 i t).2 ⟨s, h3, h5⟩, h6⟩
theorem nil_script {n : Int} (h : 0 ≤ n) : Script [] n n := ⟨h, h, h, h, rfl⟩
theorem comp_nil {x : List Ch} {n m : Int} (hx : Script x n m) : compS x [] n m m = x := by
  have hy := nil_script hx.2.1
  obtain ⟨m1, p1, e1⟩ := comp_spec hx hy
  rw [e1]
  have : compP x [] n m m = U 0 0 n m x := by
    refine unit_ext p1.a hx.2.2.up.a comp_unit (U_unit hx.2.2) fun i j => ?_
    rw [m1]
    constructor
    · rintro ⟨t, h1, h2⟩
      rw [U_nil, mem_un] at h2
      dsimp only at h2
      obtain rfl : t = j := by omega
      exact h1
    · intro h
      refine ⟨j, h, ?_⟩
      have := hx.2.2.bounds _ h
      rw [U_nil, mem_un]
      dsimp only at this ⊢
      omega
  rw [this, betw_U hx.2.2]
theorem nil_comp {x : List Ch} {n m : Int} (hx : Script x n m) : compS [] x n n m = x := by
  have hy := nil_script hx.1
  obtain ⟨m1, p1, e1⟩ := comp_spec hy hx
  rw [e1]
  have : compP [] x n n m = U 0 0 n m x := by
    refine unit_ext p1.a hx.2.2.up.a comp_unit (U_unit hx.2.2) fun i j => ?_
    rw [m1]
    constructor
    · rintro ⟨t, h1, h2⟩
      rw [U_nil, mem_un] at h1
      dsimp only at h1
      obtain rfl : t = i := by omega
      exact h2
    · intro h
      refine ⟨i, ?_, h⟩
      have := hx.2.2.bounds _ h
      rw [U_nil, mem_un]
      dsimp only at this ⊢
      omega
  rw [this, betw_U hx.2.2]

/-- two lists of what is kept, one behind the other -/
def compK (p q : List Int) : List Int := p.map fun z => if 0 ≤ z then q.getD z.toNat (-1) else -1
theorem compK_kept {x y : List Ch} {n m k : Int} (hx : Script x n m) (hy : Script y m k) : keptR 0 (compK (kr 0 0 n m x) (kr 0 0 m k y)) = compP x y n m k := by
  obtain ⟨m1, p1, _⟩ := comp_spec hx hy
  refine unit_ext (keptR_up _ _) p1.a (fun r hr => (mem_keptR.1 hr).1) comp_unit fun i j => ?_
  rw [m1]
  rw [← kr_kept hx.2.2 (Int.le_refl _), ← kr_kept hy.2.2 (Int.le_refl _)]
  simp only [mem_keptR]
  have hp := kr_each hx.2.2 (Int.le_refl _)
  have hq := kr_each hy.2.2 (Int.le_refl _)
  have hql := kr_length hy.2.2
  generalize kr 0 0 n m x = p at *
  generalize kr 0 0 m k y = q at *
  simp only [compK, List.getElem?_map, true_and, Int.sub_zero]
  constructor
  · rintro ⟨h1, h2, h3⟩
    cases hz : p[i.toNat]? with
    | none => rw [hz] at h2; simp at h2
    | some z =>
      rw [hz] at h2
      simp only [Option.map_some, Option.some_inj] at h2
      split at h2
      · rename_i h0
        refine ⟨z, ⟨h1, rfl, by omega⟩, h0, ?_, h3⟩
        rw [List.getD, ] at h2
        cases hq2 : q[z.toNat]? with
        | none => rw [hq2] at h2; simp at h2; omega
        | some w => rw [hq2] at h2; simp at h2; rw [h2]
      · omega
  · rintro ⟨t, ⟨h1, h2, h3⟩, h4, h5, h6⟩
    refine ⟨h1, ?_, h6⟩
    rw [h2]
    simp only [Option.map_some, Option.some_inj]
    rw [if_pos h4, List.getD, h5]
    rfl
end Go.Proofs.Ytoacmaloiaeniaa

/- Scripts are made: between, Make, walked. -/
namespace Go.Proofs.Ytoacmaloiaeniaa
open Go.RowKit

theorem ret_tuple {a b : Value} (h : a = b) : Ending.returned a = .returned b := by rw [h]
/-- numbers of a run that are small enough for sums -/
def sm (r : Rn) : Prop := 0 ≤ r.a ∧ r.a ≤ 4294967296 ∧ 0 ≤ r.b ∧ r.b ≤ 4294967296 ∧ 0 ≤ r.n ∧ r.n ≤ 4294967296
theorem owns_apart {w w' : World} {base base' : Nat} {e e' : TypeId} {s s' : Nat} {v v' : Value} {n n' : Nat} {xs xs' : List Value} (h : w.ownsRow base e s v n xs) (h' : w.ownsRow base' e' s' v' n' xs') (hne : e ≠ e') (h0 : 0 < n) (hg : w.grownBy w' v'.ownBlock) : w'.ownsRow base e s v n xs := by
  refine h.kept hg (.inr ?_)
  rcases h.2 with ⟨_, h1⟩ | ⟨g, cap, cur, rfl, _, hc, _⟩
  · omega
  · rcases h'.2 with ⟨rfl, _⟩ | ⟨g', cap', cur', rfl, _, hc', _⟩
    · simp [Value.ownBlock]
    · intro e1
      simp only [Value.ownBlock, Option.some.injEq] at e1
      subst e1
      rw [hc] at hc'
      cases hc'
      exact hne rfl

theorem new_holds_at (W : World) (g : Nat) (hg : W.heap.size = g) (cs : Array Value) (e : TypeId) (k c : Nat) (hkc : k ≤ c) : Holds (W.alloc (.cells cs e)) (.slice (some ⟨g, 0, none⟩) k c) k cs.toList := by
  subst hg
  exact new_holds W cs e k c hkc

set_option maxRecDepth 10000 in
set_option maxHeartbeats 4000000 in
theorem between_f (rs RS : List Rn) (L : List Ch) (n m : Int) (v : Value) (base : Nat) (w : World) (hbase : base ≤ w.heap.size) (hv : w.ownsRow base 57 3 v rs.length (rncells rs)) (hlen : rs.length ≤ 1099511627776) (hRS : Hid (rs ++ [⟨n, m, 0⟩] = RS)) (hL : Hid (betw 0 0 RS = L)) (hs : Hid (∀ r ∈ RS, sm r)) (hN : Hid (∀ c ∈ L, numB c = true)) :
    Calls Try.prog 33 #[v, .int .i64 n, .int .i64 m] w fun e w' => ∃ v', e = .returned (.tuple #[v', .int .i64 0]) ∧ HCh w' v' L ∧ Below base w w' := by
  obtain ⟨ao, ca, rfl⟩ := (holds_of hv).form
  go_enter Try.func33, Try.ntmps33
  go_wp2_with (at_builtin; refine wpList_append_h _ (by kernel_rfl) (.tmp 15) (.tmp 19) 60 57 (.agg #[.int .i64 0, .int .i64 0, .int .i64 0]) 3 24 rfl Try.underlying60 infoRn rfl (by decide) (by decide) base _ _ _ rfl (hv.alloc _) _ 1 (rncells [⟨n, m, 0⟩]) rfl (new_holds _ _ _ _ _ (by decide)) rfl (rncells_one _) (by omega) (by simp; omega) ?_)
  intro v1 w1 hown1 hgrow1
  have hB1 : Below base w w1 := ((Below.refl base w).alloc hbase _).grown hgrow1 (by simp; omega) (fun _ hj => owns_ge hv hj)
  have hsz1 := hB1.size
  rw [← rncells_append, hRS.out] at hown1
  have hRl : RS.length = rs.length + 1 := by rw [← hRS.out]; simp
  obtain ⟨N, hNe⟩ : ∃ N, rs.length + 1 = N := ⟨_, rfl⟩
  rw [hNe] at hown1 hRl
  have hN0 : 0 < N := by omega
  have hNl : N ≤ 1099511627777 := by omega
  obtain ⟨g1, cap1, rfl⟩ : ∃ g cap, v1 = .slice (some ⟨g, 0, none⟩) N cap := by rw [← hNe] at hown1 ⊢; exact ownsRow_succ hown1
  clear hgrow1 hNe hv
  go_wp2
  go_loopw [8, 9, 10, 22] (fun lv av bv iv wr => ∃ (k : Nat) (a b : Int) (X : List Ch), k ≤ N ∧ (∃ oo oc, lv = .slice oo X.length oc) ∧ av = .int .i64 a ∧ bv = .int .i64 b ∧ iv = .int .i64 k ∧ 0 ≤ a ∧ a ≤ 8589934592 ∧ 0 ≤ b ∧ b ≤ 8589934592 ∧ Below base w wr ∧ wr.ownsRow base 51 4 lv X.length (chcells X) ∧ X.length ≤ k ∧ wr.ownsRow base 57 3 (.slice (some ⟨g1, 0, none⟩) N cap1) N (rncells RS) ∧ Hid (X ++ betw a b (RS.drop k) = L)) (fun _ _ _ iv _ => N - (intOf iv).toNat)
  case atStart => exact ⟨0, 0, 0, [], Nat.zero_le _, ⟨_, _, rfl⟩, rfl, rfl, rfl, by omega, by omega, by omega, by omega, hB1, World.ownsRow_nil _ _ _ _, Nat.zero_le _, hown1, hL⟩
  case round =>
    obtain ⟨k, a, b, X, hk, ⟨oo, oc, rfl⟩, rfl, rfl, rfl, ha0, ha1, hb0, hb1, hB, hO, hX, hV, hR⟩ := hrel
    have hsz := hB.size
    by_cases hlt : k < N
    · have hV' : HRn wr (.slice (some ⟨g1, 0, none⟩) N cap1) RS := by have := holds_of hV; rw [← hRl] at this ⊢; exact this
      obtain ⟨bk, off, hbe, hbk, hc⟩ := HRn.at hV' (by omega)
      cases hbe
      obtain ⟨c0, c1, c2⟩ := hc k (by omega)
      have hR' := hR.out
      rw [List.drop_eq_getElem_cons (by omega)] at hR'
      obtain ⟨r, hrd⟩ : ∃ r, RS[k] = r := ⟨_, rfl⟩
      have hsm := hs.out r (by rw [← hrd]; exact List.getElem_mem _)
      rw [hrd] at hR' c0 c1 c2
      clear hc hrd hR hV'
      have HR : Hid (X ++ betw a b (r :: RS.drop (k + 1)) = L) := hR'
      clear hR'
      obtain ⟨ra, rb, rn⟩ := r
      obtain ⟨s1, s2, s3, s4, s5, s6⟩ := hsm
      dsimp only at c0 c1 c2 s1 s2 s3 s4 s5 s6
      rw [Nat.zero_add] at c0 c1 c2
      have i1 : 0 ≤ (k : Int) := by omega
      have i2 : (k : Int) < (N : Int) := by omega
      by_cases hea : a < ra
      · go_wp2_with (at_builtin; refine wpList_append_h _ (by kernel_rfl) (.tmp 36) (.tmp 48) 22 51 (.agg #[.int .i64 0, .int .i64 0, .int .i64 0, .int .i64 0]) 4 32 rfl Try.underlying22 infoCh rfl (by decide) (by decide) base _ _ _ rfl ((hO.alloc _).alloc _) _ 1 (chcells [⟨a, ra - a, b, rb - b⟩]) rfl (new_holds_at _ _ (by simp) _ _ _ _ (by decide)) rfl (chcells_one _) (by omega) (by simp; omega) ?_)
        intro v2 w2 hown2 hgrow2
        have hB2 : Below base w w2 := ((hB.alloc (by omega) _).alloc (by simp; omega) _).grown hgrow2 (by simp; omega) (fun _ hj => owns_ge hO hj)
        have hsz2 := hB2.size
        have hV2 := owns_apart ((hV.alloc _).alloc _) ((hO.alloc _).alloc _) (by decide) hN0 hgrow2
        have hbx : w2.heap[wr.heap.size]? = some (Obj.cells #[Value.int IntKind.i64 ra, Value.int IntKind.i64 rb, Value.int IntKind.i64 rn] 57 (0, 0)) := by
          rw [hgrow2.block wr.heap.size (by simp; omega) (fun e => ?_)]
          · exact (Below.heap_alloc _ _ _ (by simp)).trans (_root_.Go.heap_alloc_new wr _)
          · have h1 := hO.2
            rcases h1 with ⟨h1, _⟩ | ⟨g, cap, cur, h1, _, h3, _⟩
            · rw [h1] at e; simp [Value.ownBlock] at e
            · rw [h1] at e
              simp only [Value.ownBlock, Option.some.injEq] at e
              have := (Array.getElem?_eq_some_iff.1 h3).1
              omega
        have d0 : w2.cell? ⟨wr.heap.size, 0, none⟩ = some (.int .i64 ra) := by rw [Lib.cell_of_heap hbx]; rfl
        have d1 : w2.cell? ⟨wr.heap.size, 1, none⟩ = some (.int .i64 rb) := by rw [Lib.cell_of_heap hbx]; rfl
        have d2 : w2.cell? ⟨wr.heap.size, 2, none⟩ = some (.int .i64 rn) := by rw [Lib.cell_of_heap hbx]; rfl
        rw [← chcells_append] at hown2
        obtain ⟨oo2, oc2, rfl⟩ := (holds_of hown2).form
        clear hbx hgrow2 c0 c1 c2
        go_wp2_with fail
        go_quiet (fail)
        go_wp2
        go_roundw
        case rel => exact ⟨k + 1, ra + rn, rb + rn, X ++ [⟨a, ra - a, b, rb - b⟩], by omega, ⟨_, _, by rw [List.length_append]; rfl⟩, by go_num, by go_num, by go_num, by omega, by omega, by omega, by omega, Below.dN hB2 _, by rw [List.length_append]; exact hown2, by simp; omega, hV2, (by
            have h := HR.out
            rw [betw] at h
            rw [if_pos (by dsimp only; omega)] at h
            show _ = _
            rw [← h]
            simp)⟩
        case measure => simp [intOf]; omega
      by_cases heb : b < rb
      · go_wp2_with (at_builtin; refine wpList_append_h _ (by kernel_rfl) (.tmp 36) (.tmp 48) 22 51 (.agg #[.int .i64 0, .int .i64 0, .int .i64 0, .int .i64 0]) 4 32 rfl Try.underlying22 infoCh rfl (by decide) (by decide) base _ _ _ rfl ((hO.alloc _).alloc _) _ 1 (chcells [⟨a, ra - a, b, rb - b⟩]) rfl (new_holds_at _ _ (by simp) _ _ _ _ (by decide)) rfl (chcells_one _) (by omega) (by simp; omega) ?_)
        intro v2 w2 hown2 hgrow2
        have hB2 : Below base w w2 := ((hB.alloc (by omega) _).alloc (by simp; omega) _).grown hgrow2 (by simp; omega) (fun _ hj => owns_ge hO hj)
        have hsz2 := hB2.size
        have hV2 := owns_apart ((hV.alloc _).alloc _) ((hO.alloc _).alloc _) (by decide) hN0 hgrow2
        have hbx : w2.heap[wr.heap.size]? = some (Obj.cells #[Value.int IntKind.i64 ra, Value.int IntKind.i64 rb, Value.int IntKind.i64 rn] 57 (0, 0)) := by
          rw [hgrow2.block wr.heap.size (by simp; omega) (fun e => ?_)]
          · exact (Below.heap_alloc _ _ _ (by simp)).trans (_root_.Go.heap_alloc_new wr _)
          · have h1 := hO.2
            rcases h1 with ⟨h1, _⟩ | ⟨g, cap, cur, h1, _, h3, _⟩
            · rw [h1] at e; simp [Value.ownBlock] at e
            · rw [h1] at e
              simp only [Value.ownBlock, Option.some.injEq] at e
              have := (Array.getElem?_eq_some_iff.1 h3).1
              omega
        have d0 : w2.cell? ⟨wr.heap.size, 0, none⟩ = some (.int .i64 ra) := by rw [Lib.cell_of_heap hbx]; rfl
        have d1 : w2.cell? ⟨wr.heap.size, 1, none⟩ = some (.int .i64 rb) := by rw [Lib.cell_of_heap hbx]; rfl
        have d2 : w2.cell? ⟨wr.heap.size, 2, none⟩ = some (.int .i64 rn) := by rw [Lib.cell_of_heap hbx]; rfl
        rw [← chcells_append] at hown2
        obtain ⟨oo2, oc2, rfl⟩ := (holds_of hown2).form
        clear hbx hgrow2 c0 c1 c2
        go_wp2_with fail
        go_quiet (fail)
        go_wp2
        go_roundw
        case rel => exact ⟨k + 1, ra + rn, rb + rn, X ++ [⟨a, ra - a, b, rb - b⟩], by omega, ⟨_, _, by rw [List.length_append]; rfl⟩, by go_num, by go_num, by go_num, by omega, by omega, by omega, by omega, Below.dN hB2 _, by rw [List.length_append]; exact hown2, by simp; omega, hV2, (by
            have h := HR.out
            rw [betw] at h
            rw [if_pos (by dsimp only; omega)] at h
            show _ = _
            rw [← h]
            simp)⟩
        case measure => simp [intOf]; omega
      · go_wp2_with fail
        go_quiet (fail)
        go_wp2
        go_roundw
        case rel => exact ⟨k + 1, ra + rn, rb + rn, X, by omega, ⟨_, _, rfl⟩, by go_num, by go_num, by go_num, by omega, by omega, by omega, by omega, Below.dN (hB.alloc (by omega) _) _, hO.alloc _, by omega, hV.alloc _, (by
            have h := HR.out
            rw [betw] at h
            rw [if_neg (by dsimp only; omega)] at h
            exact h)⟩
        case measure => simp [intOf]; omega
    · have hR' := hR.out
      rw [List.drop_of_length_le (by omega), betw, List.append_nil] at hR'
      subst hR'
      clear hR
      go_wp2
      go_loopw [63] (fun iv wr2 => ∃ k : Nat, k ≤ X.length ∧ iv = .int .i64 k ∧ Below base w wr2 ∧ HCh wr2 (.slice oo X.length oc) X) (fun iv _ => X.length - (intOf iv).toNat)
      case atStart => exact ⟨0, Nat.zero_le _, rfl, hB, holds_of hO⟩
      case round =>
        obtain ⟨j, hj, rfl, hBj, hXj⟩ := hrel
        have hszj := hBj.size
        by_cases hjl : j < X.length
        · obtain ⟨bk, off, rfl, hbk, hc⟩ := HCh.at hXj (by omega)
          obtain ⟨c0, c1, c2, c3⟩ := hc j hjl
          obtain ⟨c, hcd⟩ : ∃ c, X[j] = c := ⟨_, rfl⟩
          have hnc := hN.out c (by rw [← hcd]; exact List.getElem_mem _)
          rw [hcd] at c0 c1 c2 c3
          clear hc hcd
          obtain ⟨A, AN, B, BN⟩ := c
          dsimp only at c0 c1 c2 c3
          have HQ : Hid (numB ⟨A, AN, B, BN⟩ = true) := hnc
          clear hnc
          have i1 : 0 ≤ (j : Int) := by omega
          have i2 : (j : Int) < (X.length : Int) := by omega
          go_wp2_with fail
          refine (numbered_any ⟨A, AN, B, BN⟩ _).mono ?_
          rintro e w3 ⟨rfl, hB3⟩
          rw [HQ.out]
          have hB4 := ((Below.refl wr.heap.size wr).alloc (Nat.le_refl _) (Obj.cells #[Value.int IntKind.i64 A, Value.int IntKind.i64 AN, Value.int IntKind.i64 B, Value.int IntKind.i64 BN] 51)).trans (hB3.mono (by simp))
          clear c0 c1 c2 c3
          go_wp2
          go_roundw
          case rel => exact ⟨j + 1, by omega, by go_num, hBj.trans (hB4.mono (by omega)), HCh.keep hXj hB4 (Nat.le_refl _)⟩
          case measure => simp [intOf]; omega
        · go_wp2
          go_ret2
          exact ⟨_, rfl, hXj, hBj⟩

theorem Right.num {f : Bool} {a b n m : Int} {l : List Ch} (h : Right f a b n m l) : ∀ c ∈ l, numB c = true := by
  induction l generalizing f a b with
  | nil => simp
  | cons c l ih =>
    intro d hd
    rw [List.mem_cons] at hd
    rcases hd with rfl | hd
    · exact h.1.1
    · exact ih h.2 d hd
theorem Vk.lt {nx m : Int} {K : List Int} (h : Vk nx m K) : ∀ z ∈ K, z = -1 ∨ z < m := by
  induction K generalizing nx with
  | nil => simp
  | cons y t ih =>
    intro z hz
    rw [List.mem_cons] at hz
    rcases h with ⟨rfl, h⟩ | ⟨hy, h1, h2, h3⟩
    · rcases hz with rfl | hz
      · exact .inl rfl
      · exact ih h z hz
    · rcases hz with rfl | hz
      · exact .inr h2
      · exact ih h3 z hz
/-- the script that a list of what is kept makes -/
def mkL (K : List Int) (m : Int) : List Ch := betw 0 0 (keptR 0 K ++ [⟨K.length, m, 0⟩])
theorem mk_script {K : List Int} {m : Int} (h : Vk 0 m K) (h0 : 0 ≤ m) (hm : m ≤ 2147483647) (hl : K.length ≤ 1048576) : Script (mkL K m) K.length m ∧ U 0 0 K.length m (mkL K m) = keptR 0 K := by
  have hf := h.fit h0 (i := 0)
  rw [Int.zero_add] at hf
  have := fit_right hf (Int.le_refl _) (Int.le_refl _) (by omega) hm
  exact ⟨⟨by omega, h0, this.1⟩, this.2⟩
theorem kept_sm {K : List Int} {m : Int} (h : Vk 0 m K) (h0 : 0 ≤ m) (hm : m ≤ 2147483647) (hl : K.length ≤ 1048576) : ∀ r ∈ keptR 0 K ++ [⟨K.length, m, 0⟩], sm r := by
  intro r hr
  rw [List.mem_append, List.mem_singleton] at hr
  rcases hr with hr | rfl
  · rw [mem_keptR] at hr
    obtain ⟨h1, h2, h3, h4⟩ := hr
    have hlt := (List.getElem?_eq_some_iff.1 h3).1
    have hz := List.mem_of_getElem? h3
    have := h.each (Int.le_refl _) _ hz
    have := h.lt _ hz
    unfold sm
    omega
  · unfold sm
    dsimp only
    omega
theorem kept_len (i : Int) (K : List Int) : (keptR i K).length ≤ K.length := by
  induction K generalizing i with
  | nil => simp [keptR]
  | cons z t ih =>
    have := ih (i + 1)
    rw [keptR]
    split <;> simp <;> omega

set_option maxRecDepth 10000 in
set_option maxHeartbeats 4000000 in
theorem Make_f (K : List Int) (m : Int) (L : List Ch) (v : Value) (w : World) (hK : HI w v K) (hlen : K.length ≤ 1048576) (hV : Hid (Vk 0 m K)) (hm0 : 0 ≤ m) (hm : m ≤ 2147483647) (hL : Hid (mkL K m = L)) :
    Calls Try.prog 27 #[v, .int .i64 m] w fun e w' => ∃ v', e = .returned (.tuple #[v', .int .i64 0]) ∧ HCh w' v' L ∧ Below w.heap.size w w' := by
  obtain ⟨ao, ca, rfl⟩ := Holds.form hK
  go_enter Try.func27, Try.ntmps27
  go_wp2
  go_loopw [6, 7, 14] (fun kv nv iv wr => ∃ (k : Nat) (nx : Int) (X : List Rn), k ≤ K.length ∧ (∃ oo oc, kv = .slice oo X.length oc) ∧ nv = .int .i64 nx ∧ iv = .int .i64 k ∧ 0 ≤ nx ∧ nx ≤ m ∧ Below w.heap.size w wr ∧ wr.ownsRow w.heap.size 57 3 kv X.length (rncells X) ∧ X.length ≤ k ∧ Hid (Vk nx m (K.drop k) ∧ X ++ keptR k (K.drop k) = keptR 0 K)) (fun _ _ iv _ => K.length - (intOf iv).toNat)
  case atStart => exact ⟨0, 0, [], Nat.zero_le _, ⟨_, _, rfl⟩, rfl, rfl, by omega, by omega, Below.refl _ w, World.ownsRow_nil _ _ _ _, Nat.zero_le _, (⟨hV.out, rfl⟩ : _ ∧ _)⟩
  case round =>
    obtain ⟨k, nx, X, hk, ⟨oo, oc, rfl⟩, rfl, rfl, hn0, hnm, hB, hO, hX, hR⟩ := hrel
    have hsz := hB.size
    by_cases hlt : k < K.length
    · obtain ⟨bk, off, rfl, hbk, hc⟩ := HI.at (HI.keep hK hB (Nat.le_refl _)) (by omega)
      have c0 := hc k hlt
      have hR' := hR.out
      rw [List.drop_eq_getElem_cons hlt] at hR'
      obtain ⟨z, hzd⟩ : ∃ z, K[k] = z := ⟨_, rfl⟩
      rw [hzd] at hR' c0
      clear hc hzd hR
      have i1 : 0 ≤ (k : Int) := by omega
      have i2 : (k : Int) < (K.length : Int) := by omega
      by_cases hz : z = -1
      · subst hz
        have HR : Hid (Vk nx m (K.drop (k + 1)) ∧ X ++ keptR (k + 1 : Nat) (K.drop (k + 1)) = keptR 0 K) := (by
          obtain ⟨h1, h2⟩ := hR'
          rw [keptR, if_pos rfl] at h2
          rcases h1 with ⟨_, h1⟩ | ⟨h1, _⟩
          · exact ⟨h1, h2⟩
          · exact absurd rfl h1)
        clear hR'
        go_wp2
        go_roundw
        case rel => exact ⟨k + 1, nx, X, by omega, ⟨_, _, rfl⟩, rfl, by go_num, hn0, hnm, hB, hO, by omega, HR⟩
        case measure => simp [intOf]; omega
      · have hq : nx ≤ z ∧ z < m ∧ Vk (z + 1) m (K.drop (k + 1)) := by
          rcases hR'.1 with ⟨h1, _⟩ | ⟨_, h1⟩
          · exact absurd h1 hz
          · exact h1
        obtain ⟨q1, q2, q3⟩ := hq
        have HR : Hid (Vk (z + 1) m (K.drop (k + 1)) ∧ X ++ [⟨k, z, 1⟩] ++ keptR (k + 1 : Nat) (K.drop (k + 1)) = keptR 0 K) := (by
          obtain ⟨_, h2⟩ := hR'
          rw [keptR, if_neg hz] at h2
          refine ⟨q3, ?_⟩
          rw [← h2, List.append_assoc]
          rfl)
        clear hR' q3
        have hz2 : decide (z = -1) = false := decide_eq_false hz
        go_wp2_with (at_builtin; refine wpList_append_h _ (by kernel_rfl) (.tmp 29) (.tmp 33) 60 57 (.agg #[.int .i64 0, .int .i64 0, .int .i64 0]) 3 24 rfl Try.underlying60 infoRn rfl (by decide) (by decide) w.heap.size _ _ _ rfl (hO.alloc _) _ 1 (rncells [⟨k, z, 1⟩]) rfl (new_holds _ _ _ _ _ (by decide)) rfl (rncells_one _) (by omega) (by simp; omega) ?_)
        intro v2 w2 hown2 hgrow2
        have hB2 : Below w.heap.size w w2 := (hB.alloc (by omega) _).grown hgrow2 (by simp; omega) (fun _ hj => owns_ge hO hj)
        rw [← rncells_append] at hown2
        obtain ⟨oo2, oc2, rfl⟩ := (holds_of hown2).form
        clear hgrow2 c0
        go_wp2
        go_roundw
        case rel => exact ⟨k + 1, z + 1, X ++ [⟨k, z, 1⟩], by omega, ⟨_, _, by rw [List.length_append]; rfl⟩, by go_num, by go_num, by omega, by omega, hB2, by rw [List.length_append]; exact hown2, by simp; omega, HR⟩
        case measure => simp [intOf]; omega
    · have hR' := hR.out
      rw [List.drop_of_length_le (by omega), keptR, List.append_nil] at hR'
      have hXe := hR'.2
      subst hXe
      clear hR hR'
      go_wp2_with fail
      refine (between_f _ _ L K.length m _ w.heap.size wr (by omega) hO (by have := kept_len 0 K; omega) rfl hL (kept_sm hV.out hm0 hm hlen) (by
        have h := (mk_script hV.out hm0 hm hlen).1.2.2.num
        rw [hL.out] at h
        exact h)).mono ?_
      rintro e w2 ⟨v', rfl, hv', hB2⟩
      go_wp2
      go_ret2
      exact ⟨_, rfl, hv', hB.trans hB2⟩
end Go.Proofs.Ytoacmaloiaeniaa
