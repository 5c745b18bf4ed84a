/-
  Edit scripts as lists: which are right, what they keep, how they are made, put together and gone back; plain mathematics.
-/
import Derived.Test.YtppdcjjkkckokaaEdRow
namespace Go.Proofs.Ytppdcjjkkckokaa

/-- numbers that a right script may have -/
def nat31 (z : Int) : Bool := decide (0 ≤ z) && decide (z ≤ 2147483647)
/-- a change of which the numbers are right, and which changes something -/
def numB (c : Ch) : Bool := nat31 c.A && nat31 c.AN && nat31 c.B && nat31 c.BN && (decide (0 < c.AN) || decide (0 < c.BN))
theorem numB_iff (c : Ch) : numB c = true ↔ (0 ≤ c.A ∧ c.A ≤ 2147483647) ∧ (0 ≤ c.AN ∧ c.AN ≤ 2147483647) ∧ (0 ≤ c.B ∧ c.B ≤ 2147483647) ∧ (0 ≤ c.BN ∧ c.BN ≤ 2147483647) ∧ (0 < c.AN ∨ 0 < c.BN) := by
  simp [numB, nat31, and_assoc]

/-- the rest of a right script, behind the lines a and b; f: nothing stands ahead of it -/
def Right : Bool → Int → Int → Int → Int → List Ch → Prop
  | _, a, b, n, m, [] => a ≤ n ∧ b ≤ m ∧ n - a = m - b
  | f, a, b, n, m, c :: l => (numB c = true ∧ c.A - a = c.B - b ∧ a ≤ c.A ∧ (f = true ∨ a < c.A)) ∧ Right false (c.A + c.AN) (c.B + c.BN) n m l
instance decRight : (f : Bool) → (a b n m : Int) → (l : List Ch) → Decidable (Right f a b n m l)
  | _, a, b, n, m, [] => inferInstanceAs (Decidable (a ≤ n ∧ b ≤ m ∧ n - a = m - b))
  | f, a, b, n, m, c :: l =>
    have := decRight false (c.A + c.AN) (c.B + c.BN) n m l
    inferInstanceAs (Decidable ((numB c = true ∧ c.A - a = c.B - b ∧ a ≤ c.A ∧ (f = true ∨ a < c.A)) ∧ Right false (c.A + c.AN) (c.B + c.BN) n m l))
theorem Right.le {f : Bool} {a b n m : Int} {l : List Ch} (h : Right f a b n m l) : a ≤ n ∧ b ≤ m ∧ n - a - (m - b) = n - a - (m - b) := by
  induction l generalizing f a b with
  | nil => exact ⟨h.1, h.2.1, rfl⟩
  | cons c l ih =>
    obtain ⟨⟨h1, h2, h3, h4⟩, h5⟩ := h
    rw [numB_iff] at h1
    have := ih h5
    refine ⟨by omega, by omega, rfl⟩
/-- a script is right from n to m lines -/
def Script (l : List Ch) (n m : Int) : Prop := 0 ≤ n ∧ 0 ≤ m ∧ Right true 0 0 n m l
instance (l : List Ch) (n m : Int) : Decidable (Script l n m) := inferInstanceAs (Decidable (_ ∧ _ ∧ _))
/-- Check's answer -/
def chk (l : List Ch) (n m : Int) : Int := if Script l n m then 0 else 50
theorem chk_ok {l : List Ch} {n m : Int} (h : Script l n m) : chk l n m = 0 := if_pos h
theorem chk_no {l : List Ch} {n m : Int} (h : ¬ Script l n m) : chk l n m = 50 := if_neg h

/-- a script, piece by piece: what is kept, and the change behind it -/
def piecesL : Int → Int → Int → Int → List Ch → List (Rn × Ch)
  | a, b, n, m, [] => [(⟨a, b, n - a⟩, ⟨n, 0, m, 0⟩)]
  | a, b, n, m, c :: l => (⟨a, b, c.A - a⟩, c) :: piecesL (c.A + c.AN) (c.B + c.BN) n m l
/-- a piece that lies within n and m lines -/
def Pc (n m : Int) (x : Rn × Ch) : Prop :=
  0 ≤ x.1.a ∧ 0 ≤ x.1.b ∧ 0 ≤ x.1.n ∧ x.1.a + x.1.n ≤ n ∧ x.1.b + x.1.n ≤ m ∧ 0 ≤ x.2.B ∧ 0 ≤ x.2.BN ∧ x.2.B + x.2.BN ≤ m ∧ 0 ≤ x.2.AN ∧ x.2.AN ≤ n
theorem Right.pc {f : Bool} {a b n m : Int} {c : Ch} {l : List Ch} (h : Right f a b n m (c :: l)) (ha : 0 ≤ a) (hb : 0 ≤ b) : Pc n m (⟨a, b, c.A - a⟩, c) := by
  obtain ⟨⟨h1, h2, h3, h4⟩, h5⟩ := h
  rw [numB_iff] at h1
  have := h5.le
  refine ⟨ha, hb, ?_, ?_, ?_, ?_, ?_, ?_, ?_, ?_⟩ <;> dsimp only <;> omega
theorem Right.pcEnd {f : Bool} {a b n m : Int} (h : Right f a b n m []) (ha : 0 ≤ a) (hb : 0 ≤ b) : Pc n m (⟨a, b, n - a⟩, ⟨n, 0, m, 0⟩) := by
  obtain ⟨h1, h2, h3⟩ := h
  refine ⟨ha, hb, ?_, ?_, ?_, ?_, ?_, ?_, ?_, ?_⟩ <;> dsimp only <;> omega

/-- what a piece says of the lines of the first text -/
def pk (x : Rn × Ch) : List Int := (List.range x.1.n.toNat).map (fun (i : Nat) => x.1.b + (i : Int)) ++ List.replicate x.2.AN.toNat (-1)
/-- what is kept -/
def keepL (l : List Ch) (n m : Int) : List Int := (piecesL 0 0 n m l).flatMap pk
/-- a piece of a text -/
def cut (A : List (List UInt8)) (i n : Int) : List (List UInt8) := (A.drop i.toNat).take n.toNat
/-- what a piece of a script makes -/
def pa (A B : List (List UInt8)) (x : Rn × Ch) : List (List UInt8) := cut A x.1.a x.1.n ++ cut B x.2.B x.2.BN
/-- what a script makes -/
def applyL (l : List Ch) (A B : List (List UInt8)) : List (List UInt8) := (piecesL 0 0 A.length B.length l).flatMap (pa A B)
end Go.Proofs.Ytppdcjjkkckokaa
