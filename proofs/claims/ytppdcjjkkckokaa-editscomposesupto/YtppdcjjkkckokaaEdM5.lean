/-
  Going back, what a script costs, and what it reaches: plain mathematics.
-/
import Derived.Test.YtppdcjjkkckokaaEdM4
namespace Go.Proofs.Ytppdcjjkkckokaa

/-- a change the other way round -/
def inv (c : Ch) : Ch := ⟨c.B, c.BN, c.A, c.AN⟩
def invL (l : List Ch) : List Ch := l.map inv
def sw (r : Rn) : Rn := ⟨r.b, r.a, r.n⟩
theorem inv_inv (c : Ch) : inv (inv c) = c := rfl
theorem invL_invL (l : List Ch) : invL (invL l) = l := by simp [invL, Function.comp_def, inv_inv]
theorem numB_inv (c : Ch) : numB (inv c) = true ↔ numB c = true := by
  rw [numB_iff, numB_iff]
  simp only [inv]
  omega
theorem Right.inv {f : Bool} {a b n m : Int} {l : List Ch} (h : Right f a b n m l) : Right f b a m n (invL l) := by
  induction l generalizing f a b with
  | nil => exact ⟨h.2.1, h.1, by have := h.2.2; omega⟩
  | cons c l ih =>
    obtain ⟨⟨h1, h2, h3, h4⟩, h5⟩ := h
    refine ⟨⟨(numB_inv c).2 h1, ?_, ?_, ?_⟩, ih h5⟩
    · show c.B - b = c.A - a; omega
    · show b ≤ c.B; omega
    · rcases h4 with h4 | h4
      · exact .inl h4
      · right; show b < c.B; omega
theorem Script.inv {n m : Int} {l : List Ch} (h : Script l n m) : Script (invL l) m n := ⟨h.2.1, h.1, h.2.2.inv⟩
theorem un_sw (a b : Int) (k : Nat) : (un a b k).map sw = un b a k := by
  induction k generalizing a b with
  | zero => rfl
  | succ k ih => rw [un, un, List.map_cons, ih]; rfl
theorem U_inv {f : Bool} {a b n m : Int} {l : List Ch} (h : Right f a b n m l) : U b a m n (invL l) = (U a b n m l).map sw := by
  induction l generalizing f a b with
  | nil =>
    obtain ⟨h1, h2, h3⟩ := h
    rw [invL, List.map_nil, U_nil, U_nil, un_sw, h3]
  | cons c l ih =>
    obtain ⟨⟨h1, h2, h3, h4⟩, h5⟩ := h
    have := ih h5
    unfold invL at this ⊢
    rw [List.map_cons, U_cons, U_cons, List.map_append, un_sw, ← this, h2]
    rfl

/-- a cost with some lines on top -/
def mo (s z : Int) : Int := s + min (max z 0) (2147483647 - s)
def costF : Int → List Ch → Int
  | s, [] => s
  | s, c :: l => costF (mo (mo s c.AN) c.BN) l
theorem mo_range {s z : Int} (h0 : 0 ≤ s) (h1 : s ≤ 2147483647) : 0 ≤ mo s z ∧ mo s z ≤ 2147483647 := by unfold mo; omega
theorem mo_add {s z : Int} (h0 : 0 ≤ z) (h1 : s + z ≤ 2147483647) : mo s z = s + z := by unfold mo; omega
theorem cost_right {f : Bool} {a b n m s : Int} {l : List Ch} (h : Right f a b n m l) (h0 : 0 ≤ s) (hs : s + (n - a) + (m - b) ≤ 2147483647) : costF s l = s + (n - a) + (m - b) - 2 * (U a b n m l).length := by
  have hul : ∀ (a b : Int) (k : Nat), (un a b k).length = k := by
    intro a b k
    induction k generalizing a b with
    | zero => rfl
    | succ k ih => rw [un, List.length_cons, ih]
  induction l generalizing f a b s with
  | nil =>
    obtain ⟨h1, h2, h3⟩ := h
    rw [costF, U_nil, hul]
    omega
  | cons c l ih =>
    obtain ⟨⟨h1, h2, h3, h4⟩, h5⟩ := h
    rw [numB_iff] at h1
    have hle := h5.le
    have e1 : mo s c.AN = s + c.AN := mo_add (by omega) (by omega)
    have e2 : mo (s + c.AN) c.BN = s + c.AN + c.BN := mo_add (by omega) (by omega)
    rw [costF, e1, e2, ih h5 (by omega) (by omega), U_cons, List.length_append, hul]
    omega
theorem cost_script {n m : Int} {l : List Ch} (h : Script l n m) (hs : n + m ≤ 2147483647) : costF 0 l = n + m - 2 * (U 0 0 n m l).length := by
  have := cost_right h.2.2 (Int.le_refl 0) (by omega)
  omega

/-- how many lines are taken out -/
def takenL : List Int → Int
  | [] => 0
  | z :: t => (if z < 0 then 1 else 0) + takenL t
theorem taken_kept {i : Int} {K : List Int} (h : ∀ z ∈ K, z = -1 ∨ 0 ≤ z) : takenL K = K.length - (keptR i K).length := by
  induction K generalizing i with
  | nil => rfl
  | cons z t ih =>
    have hz := h z (List.mem_cons_self ..)
    have ht := ih (i := i + 1) fun y hy => h y (List.mem_cons_of_mem _ hy)
    rw [takenL, keptR, ht]
    simp only [List.length_cons]
    split
    · rw [if_pos (by omega)]; omega
    · rw [if_neg (by omega)]; simp only [List.length_cons]; omega

theorem cut_eq {A B : List (List UInt8)} {a b : Int} {k : Nat} (ha : 0 ≤ a) (hb : 0 ≤ b) (h : ∀ r ∈ un a b k, A[r.a.toNat]? = B[r.b.toNat]?) : cut A a k = cut B b k := by
  apply List.ext_getElem?
  intro j
  simp only [cut, Int.toNat_natCast, List.getElem?_take, List.getElem?_drop]
  split
  · have := h ⟨a + j, b + j, 1⟩ (by rw [mem_un]; dsimp only; omega)
    dsimp only at this
    rw [show a.toNat + j = (a + (j : Int)).toNat by omega, show b.toNat + j = (b + (j : Int)).toNat by omega]
    exact this
  · rfl
theorem drop_cut {B : List (List UInt8)} {b : Int} {k : Nat} (hb : 0 ≤ b) : cut B b k ++ B.drop (b + k).toNat = B.drop b.toNat := by
  rw [cut, Int.toNat_natCast, show (b + (k : Int)).toNat = b.toNat + k by omega, ← List.drop_drop, List.take_append_drop]
theorem reach {A B : List (List UInt8)} {f : Bool} {a b : Int} {l : List Ch} (h : Right f a b A.length B.length l) (ha : 0 ≤ a) (hb : 0 ≤ b) (hs : ∀ r ∈ U a b A.length B.length l, A[r.a.toNat]? = B[r.b.toNat]?) :
    (piecesL a b A.length B.length l).flatMap (pa A B) = B.drop b.toNat := by
  induction l generalizing f a b with
  | nil =>
    obtain ⟨h1, h2, h3⟩ := h
    rw [U_nil] at hs
    simp only [piecesL, List.flatMap_cons, List.flatMap_nil, List.append_nil, pa]
    obtain ⟨k, hk⟩ : ∃ k : Nat, (A.length : Int) - a = k := ⟨((A.length : Int) - a).toNat, by omega⟩
    rw [hk, Int.toNat_natCast] at hs
    rw [hk, cut_eq ha hb hs]
    have e : cut B (B.length : Int) 0 = [] := by simp [cut]
    rw [e, List.append_nil]
    have := drop_cut (B := B) (k := k) hb
    rw [← this, List.drop_of_length_le (by omega), List.append_nil]
  | cons c l ih =>
    obtain ⟨⟨h1, h2, h3, h4⟩, h5⟩ := h
    rw [numB_iff] at h1
    rw [U_cons] at hs
    have hi := ih h5 (by omega) (by omega) fun r hr => hs r (List.mem_append_right _ hr)
    simp only [piecesL, List.flatMap_cons, pa]
    rw [hi]
    obtain ⟨k, hk⟩ : ∃ k : Nat, c.A - a = k := ⟨(c.A - a).toNat, by omega⟩
    obtain ⟨o, ho⟩ : ∃ o : Nat, c.BN = o := ⟨c.BN.toNat, by omega⟩
    rw [hk, Int.toNat_natCast] at hs
    rw [hk, ho, cut_eq ha hb fun r hr => hs r (List.mem_append_left _ hr)]
    have e1 := drop_cut (B := B) (b := c.B) (k := o) (by omega)
    have e2 := drop_cut (B := B) (b := b) (k := k) hb
    rw [List.append_assoc, e1, show c.B = b + k by omega, e2]
theorem apply_reach {A B : List (List UInt8)} {l : List Ch} (h : Script l A.length B.length) (hs : ∀ r ∈ U 0 0 A.length B.length l, A[r.a.toNat]? = B[r.b.toNat]?) : applyL l A B = B := by
  have := reach h.2.2 (Int.le_refl _) (Int.le_refl _) hs
  simpa [applyL] using this
end Go.Proofs.Ytppdcjjkkckokaa
