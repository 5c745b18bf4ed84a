/-
  Plain facts on bytes, quoted texts and how they are read: nothing of a program.
-/
namespace Go.Proofs.YtoelblofdgimfaaDoor.Q

/-- does a byte stand for itself? -/
def plainI (n : Int) : Bool := decide (32 ≤ n ∧ n ≤ 126 ∧ n ≠ 34 ∧ n ≠ 92)

theorem plainI_mk {n : Int} (h : 32 ≤ n ∧ n ≤ 126 ∧ n ≠ 34 ∧ n ≠ 92) : plainI n = true := decide_eq_true h
theorem plainI_not {n : Int} (h : ¬ (32 ≤ n ∧ n ≤ 126 ∧ n ≠ 34 ∧ n ≠ 92)) : plainI n = false := decide_eq_false h
theorem plainI_out {n : Int} (h : plainI n = true) : 32 ≤ n ∧ n ≤ 126 ∧ n ≠ 34 ∧ n ≠ 92 := of_decide_eq_true h
theorem plainI_no {n : Int} (h : plainI n = false) : ¬ (32 ≤ n ∧ n ≤ 126 ∧ n ≠ 34 ∧ n ≠ 92) := of_decide_eq_false h

/-- the hexadecimal digits -/
def hexl : List UInt8 := [48, 49, 50, 51, 52, 53, 54, 55, 56, 57, 97, 98, 99, 100, 101, 102]

def hexc (n : Nat) : UInt8 := hexl.getD n 0

theorem hex_at (n : Nat) (h : n < (⟨#[48, 49, 50, 51, 52, 53, 54, 55, 56, 57, 97, 98, 99, 100, 101, 102]⟩ : ByteArray).size) :
    (⟨#[48, 49, 50, 51, 52, 53, 54, 55, 56, 57, 97, 98, 99, 100, 101, 102]⟩ : ByteArray)[n] = hexc n := by
  have h' : n < 16 := h
  have key : ∀ i : Fin 16, (#[48, 49, 50, 51, 52, 53, 54, 55, 56, 57, 97, 98, 99, 100, 101, 102] : Array UInt8)[i.val]'(i.isLt) = hexc i.val := by decide
  exact key ⟨n, h'⟩

theorem hexl_at (n : Nat) (h : n < ([48, 49, 50, 51, 52, 53, 54, 55, 56, 57, 97, 98, 99, 100, 101, 102] : List UInt8).length) :
    ([48, 49, 50, 51, 52, 53, 54, 55, 56, 57, 97, 98, 99, 100, 101, 102] : List UInt8)[n] = hexc n := by
  have h' : n < 16 := h
  have key : ∀ i : Fin 16, ([48, 49, 50, 51, 52, 53, 54, 55, 56, 57, 97, 98, 99, 100, 101, 102] : List UInt8)[i.val]'(i.isLt) = hexc i.val := by decide
  exact key ⟨n, h'⟩

def q1 (c : UInt8) : List UInt8 := if plainI c.toNat then [c] else [92, hexc (c.toNat / 16), hexc (c.toNat % 16)]

def qbody (l : List UInt8) : List UInt8 := l.flatMap q1

def quote (l : List UInt8) : List UInt8 := [34] ++ qbody l ++ [34]

/-- the value of a hexadecimal digit, or -1 -/
def digitI (n : Int) : Int := if 48 ≤ n ∧ n ≤ 57 then n - 48 else if 97 ≤ n ∧ n ≤ 102 then n - 87 else -1

theorem digitI_ge (n : Int) : -1 ≤ digitI n ∧ digitI n ≤ 15 := by unfold digitI; split <;> (try split) <;> omega

theorem hexc_val (k : Nat) (h : k < 16) : (hexc k).toNat = if k < 10 then 48 + k else 87 + k := by
  have key : ∀ i : Fin 16, (hexc i.val).toNat = if i.val < 10 then 48 + i.val else 87 + i.val := by decide
  exact key ⟨k, h⟩

theorem digit_hexc (k : Nat) (h : k < 16) : digitI (hexc k).toNat = k := by
  rw [hexc_val k h]; unfold digitI; split <;> split <;> omega

theorem digit_none (n : Int) (h : ∀ j, j < 16 → ((hexc j).toNat : Int) ≠ n) : digitI n = -1 := by
  unfold digitI
  split
  · have h1 := h (n - 48).toNat (by omega)
    rw [hexc_val _ (by omega), if_pos (by omega)] at h1
    omega
  · split
    · have h1 := h (n - 87).toNat (by omega)
      rw [hexc_val _ (by omega), if_neg (by omega)] at h1
      omega
    · rfl

/-- the byte that two digits are -/
def pairI (a b : UInt8) : Int := 16 * digitI a.toNat + digitI b.toNat

/-- are there two digits of a byte that does not stand for itself? -/
def pairOk (a b : UInt8) : Bool := decide (0 ≤ digitI a.toNat) && decide (0 ≤ digitI b.toNat) && !(plainI (pairI a b))

/-- the quoted byte at the front (0 if there is none), and how long it is (0 if there is none) -/
def pv (a b : UInt8) : Int := if pairOk a b then pairI a b else 0
def pn (a b : UInt8) : Int := if pairOk a b then 3 else 0

theorem pairOk_lo {a b : UInt8} (h : digitI a.toNat < 0) : pairOk a b = false := by simp [pairOk]; omega
theorem pairOk_hi {a b : UInt8} (h : digitI b.toNat < 0) : pairOk a b = false := by simp [pairOk]; omega
theorem pairOk_mid {a b : UInt8} (h : ¬ digitI a.toNat < 0) (h' : ¬ digitI b.toNat < 0) : pairOk a b = !plainI (pairI a b) := by simp [pairOk]; omega
theorem pv_no {a b : UInt8} (h : pairOk a b = false) : 0 = pv a b := by simp [pv, h]
theorem pn_no {a b : UInt8} (h : pairOk a b = false) : 0 = pn a b := by simp [pn, h]
theorem pv_yes {a b : UInt8} (h : pairOk a b = true) : pairI a b = pv a b := by simp [pv, h]
theorem pn_yes {a b : UInt8} (h : pairOk a b = true) : 3 = pn a b := by simp [pn, h]

/-- what stands behind the opening mark: the text, and what is behind the closing mark -/
def body : List UInt8 → Option (List UInt8 × List UInt8)
  | [] => none
  | c :: t =>
    if c.toNat = 34 then some ([], t)
    else if plainI c.toNat then (body t).map fun p => (c :: p.1, p.2)
    else if c.toNat = 92 then
      match t with
      | a :: b :: t' => if pairOk a b then (body t').map fun p => (UInt8.ofNat (pairI a b).toNat :: p.1, p.2) else none
      | _ => none
    else none

/-- what a text that begins with a quoted text reads as -/
def unquote : List UInt8 → Option (List UInt8 × List UInt8)
  | [] => none
  | c :: t => if c.toNat = 34 then body t else none

theorem body_end {c : UInt8} (t : List UInt8) (h : c.toNat = 34) : body (c :: t) = some ([], t) := by
  rw [body.eq_def]; simp only [h, if_true]
theorem body_plain {c : UInt8} (t : List UInt8) (h : plainI c.toNat = true) : body (c :: t) = (body t).map fun p => (c :: p.1, p.2) := by
  have h4 := plainI_out h
  have h5 : ¬ c.toNat = 34 := by omega
  rw [body.eq_def]; simp only [h, h5, if_false, if_true]
theorem body_pair {c a b : UInt8} (t : List UInt8) (h : c.toNat = 92) (hk : pairOk a b = true) : body (c :: a :: b :: t) = (body t).map fun p => (UInt8.ofNat (pairI a b).toNat :: p.1, p.2) := by
  have h4 : plainI c.toNat = false := plainI_not (by omega)
  have h5 : ¬ c.toNat = 34 := by omega
  rw [body.eq_def]; simp only [h4, h5, if_false, Bool.false_eq_true, hk, if_true]
  rw [if_pos h]
theorem body_pair_no {c a b : UInt8} (t : List UInt8) (h : c.toNat = 92) (hk : pairOk a b = false) : body (c :: a :: b :: t) = none := by
  have h4 : plainI c.toNat = false := plainI_not (by omega)
  have h5 : ¬ c.toNat = 34 := by omega
  rw [body.eq_def]; simp only [h4, h5, if_false, Bool.false_eq_true, hk]
  rw [if_pos h]
theorem body_none {c : UInt8} (t : List UInt8) (h0 : c.toNat ≠ 34) (h : plainI c.toNat = false) (h2 : ¬ (c.toNat = 92 ∧ 2 ≤ t.length)) : body (c :: t) = none := by
  rw [body.eq_def]
  simp only [h0, h, if_false, Bool.false_eq_true]
  by_cases h3 : c.toNat = 92
  · rw [if_pos h3]
    match t with
    | [] => rfl
    | [_] => rfl
    | a :: b :: t' => exact absurd ⟨h3, by simp⟩ h2
  · rw [if_neg h3]

def uqa (l : List UInt8) : List UInt8 := ((unquote l).map (·.1)).getD []
def uqb (l : List UInt8) : List UInt8 := ((unquote l).map (·.2)).getD []
def uqe (l : List UInt8) : Int := if (unquote l).isSome then 0 else 3

theorem uq_none {l : List UInt8} (h : unquote l = none) : uqa l = [] ∧ uqb l = [] ∧ uqe l = 3 := by simp [uqa, uqb, uqe, h]
theorem uq_some {l a b : List UInt8} (h : unquote l = some (a, b)) : uqa l = a ∧ uqb l = b ∧ uqe l = 0 := by simp [uqa, uqb, uqe, h]

theorem pairI_byte {a b : UInt8} (hk : pairOk a b = true) : 0 ≤ pairI a b ∧ pairI a b ≤ 255 := by
  have h1 := digitI_ge a.toNat
  have h2 := digitI_ge b.toNat
  simp [pairOk] at hk
  unfold pairI; omega

theorem quote_length (l : List UInt8) : (quote l).length ≤ 3 * l.length + 2 := by
  have h : ∀ l : List UInt8, (qbody l).length ≤ 3 * l.length := by
    intro l
    induction l with
    | nil => simp [qbody]
    | cons c t ih =>
      have : (q1 c).length ≤ 3 := by unfold q1; split <;> simp
      simp only [qbody, List.flatMap_cons, List.length_append, List.length_cons] at ih ⊢
      omega
  have := h l
  simp [quote]; omega

end Go.Proofs.YtoelblofdgimfaaDoor.Q
