/-
  Plain facts on the texts of numbers: nothing of a program.
-/
namespace Go.Proofs.YtoelblofdgimfaaDoor.Pn

/-- is a byte a decimal digit? -/
def digB (c : UInt8) : Bool := decide (48 ≤ c.toNat ∧ c.toNat ≤ 57)
theorem digB_mk {c : UInt8} (h : 48 ≤ c.toNat ∧ c.toNat ≤ 57) : digB c = true := decide_eq_true h
theorem digB_out {c : UInt8} (h : digB c = true) : 48 ≤ c.toNat ∧ c.toNat ≤ 57 := of_decide_eq_true h
theorem digB_no {c : UInt8} (h : digB c = false) : ¬ (48 ≤ c.toNat ∧ c.toNat ≤ 57) := of_decide_eq_false h

/-- is a text the text of a number from 0 on? -/
def isNum : List UInt8 → Bool
  | [] => false
  | c :: t => !(decide (c.toNat = 48) && !t.isEmpty) && (c :: t).all digB

/-- the number, but one above the limit if it is greater -/
def sat : Int → List UInt8 → Int
  | n, [] => n
  | n, c :: t => sat (min (n * 10 + ((c.toNat : Int) - 48)) 2147483648) t

def parseV (l : List UInt8) : Int := if isNum l = true ∧ sat 0 l ≤ 2147483647 then sat 0 l else 0
def parseE (l : List UInt8) : Int := if isNum l = true then if sat 0 l ≤ 2147483647 then 0 else 2 else 3

theorem sat_top : ∀ (l : List UInt8), l.all digB = true → sat 2147483648 l = 2147483648
  | [], _ => rfl
  | c :: t, h => by
    simp only [List.all_cons, Bool.and_eq_true] at h
    have h1 := digB_out h.1
    rw [sat]
    have e : min ((2147483648 : Int) * 10 + ((c.toNat : Int) - 48)) 2147483648 = 2147483648 := by omega
    rw [e]
    exact sat_top t h.2

theorem parse_no {l : List UInt8} (h : isNum l = false) : 0 = parseV l ∧ 3 = parseE l := by simp [parseV, parseE, h]
theorem parse_far {l : List UInt8} (h : isNum l = true) (h2 : sat 0 l = 2147483648) : 0 = parseV l ∧ 2 = parseE l := by simp [parseV, parseE, h, h2]
theorem parse_ok {l : List UInt8} (h : isNum l = true) {n : Int} (h2 : sat 0 l = n) (h3 : n ≤ 2147483647) : n = parseV l ∧ 0 = parseE l := by simp [parseV, parseE, h, h2, h3]

theorem isNum_all {l : List UInt8} (h : isNum l = true) : l.all digB = true := by
  cases l with
  | nil => simp [isNum] at h
  | cons c t => rw [isNum, Bool.and_eq_true] at h; exact h.2

theorem all_at {l : List UInt8} (h : l.all digB = true) (k : Nat) (hk : k < l.length) : 48 ≤ l[k].toNat ∧ l[k].toNat ≤ 57 :=
  digB_out (List.all_eq_true.1 h _ (List.getElem_mem hk))

theorem all_drop {l : List UInt8} (h : l.all digB = true) (k : Nat) : (l.drop k).all digB = true :=
  List.all_eq_true.2 fun x hx => List.all_eq_true.1 h x (List.mem_of_mem_drop hx)

theorem isNum_bad {l : List UInt8} (k : Nat) (hk : k < l.length) (h : ¬ (48 ≤ l[k].toNat ∧ l[k].toNat ≤ 57)) : isNum l = false := by
  cases hn : isNum l
  · rfl
  · exact absurd (all_at (isNum_all hn) k hk) h

theorem isNum_zero {c d : UInt8} {t : List UInt8} (h : c.toNat = 48) : isNum (c :: d :: t) = false := by simp [isNum, h]

theorem isNum_yes {c : UInt8} {t : List UInt8} (h : ¬ (c.toNat = 48 ∧ t ≠ [])) (ha : ∀ k (hk : k < (c :: t).length), 48 ≤ (c :: t)[k].toNat ∧ (c :: t)[k].toNat ≤ 57) : isNum (c :: t) = true := by
  rw [isNum, Bool.and_eq_true]
  refine ⟨?_, ?_⟩
  · cases t with
    | nil => simp
    | cons d t => simp at h ⊢; exact h
  · refine List.all_eq_true.2 fun x hx => ?_
    obtain ⟨k, hk, rfl⟩ := List.mem_iff_getElem.1 hx
    exact digB_mk (ha k hk)

theorem sat_step {l : List UInt8} {k : Nat} (hk : k < l.length) (n : Int) : sat n (l.drop k) = sat (min (n * 10 + ((l[k].toNat : Int) - 48)) 2147483648) (l.drop (k + 1)) := by
  rw [List.drop_eq_getElem_cons hk, sat]

end Go.Proofs.YtoelblofdgimfaaDoor.Pn
