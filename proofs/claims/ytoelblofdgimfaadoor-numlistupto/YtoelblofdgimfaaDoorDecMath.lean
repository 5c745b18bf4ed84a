/-
  Plain facts: the bytes of a letter beyond the first 128 are all beyond them; where the first blank or tab of a text is.
-/
import Derived.Laws.RangeAny
import Derived.Lib.IndexAny
namespace Go.Proofs.YtoelblofdgimfaaDoor

theorem get_bang (s : ByteArray) (k : Nat) (h : k < s.size) : s.get! k = s[k] := by
  simp [ByteArray.get!, getElem!_pos, h]
  rfl

/-- every byte of a letter that begins with a byte from 128 on is such a byte, and lies in the text -/
theorem decode_rest (s : ByteArray) (pos : Nat) (h : pos < s.size) (ha : 128 ≤ (s[pos]'h).toNat) (k : Nat) (hk : k < (Utf8.decode s pos).2) : ∃ h' : pos + k < s.size, 128 ≤ (s[pos + k]'h').toNat := by
  by_cases hk0 : k = 0
  · subst hk0; exact ⟨h, ha⟩
  have hn : ¬ (s.get! (pos + 0)).toNat < 128 := by rw [Nat.add_zero, get_bang s pos h]; omega
  have key : ∀ j, (decide (pos + j < s.size) && (s.get! (pos + j)).toNat / 64 == 2) = true → ∃ h' : pos + j < s.size, 128 ≤ (s[pos + j]'h').toNat := by
    intro j hj
    simp only [Bool.and_eq_true, decide_eq_true_eq, beq_iff_eq] at hj
    refine ⟨hj.1, ?_⟩
    rw [← get_bang s (pos + j) hj.1]
    omega
  revert hk
  unfold Utf8.decode
  simp only [hn, if_false]
  split
  · rename_i h2
    simp only [Bool.and_eq_true] at h2
    split
    · intro hk
      have : k = 1 := by simp at hk; omega
      subst this
      exact key 1 (by simp only [Bool.and_eq_true]; exact h2.2)
    · intro hk; simp at hk; omega
  · split
    · rename_i h2
      simp only [Bool.and_eq_true] at h2
      split
      · intro hk
        have : k = 1 ∨ k = 2 := by simp at hk; omega
        rcases this with rfl | rfl
        · exact key 1 (by simp only [Bool.and_eq_true]; exact h2.1.2)
        · exact key 2 (by simp only [Bool.and_eq_true]; exact h2.2)
      · intro hk; simp at hk; omega
    · split
      · rename_i h2
        simp only [Bool.and_eq_true] at h2
        split
        · intro hk
          have : k = 1 ∨ k = 2 ∨ k = 3 := by simp at hk; omega
          rcases this with rfl | rfl | rfl
          · exact key 1 (by simp only [Bool.and_eq_true]; exact h2.1.1.2)
          · exact key 2 (by simp only [Bool.and_eq_true]; exact h2.1.2)
          · exact key 3 (by simp only [Bool.and_eq_true]; exact h2.2)
        · intro hk; simp at hk; omega
      · intro hk; simp at hk; omega

def blankB (c : UInt8) : Bool := decide (c.toNat = 32 ∨ c.toNat = 9)
theorem blankB_out {c : UInt8} (h : blankB c = true) : c.toNat = 32 ∨ c.toNat = 9 := of_decide_eq_true h
theorem blankB_no {c : UInt8} (h : blankB c = false) : ¬ (c.toNat = 32 ∨ c.toNat = 9) := of_decide_eq_false h
theorem contains_blank (c : UInt8) : ([32, 9] : List UInt8).contains c = blankB c := by
  rw [Bool.eq_iff_iff]
  simp [blankB, ← UInt8.toNat_inj]

/-- the word at the front, and what is behind it -/
def wfront (l : List UInt8) : List UInt8 := l.takeWhile (fun c => !blankB c)
def wback (l : List UInt8) : List UInt8 := l.dropWhile (fun c => !blankB c)
/-- where the first blank or tab is, or -1 -/
def wend (l : List UInt8) : Int := Lib.indexAny l [32, 9]

theorem wend_at : ∀ (l : List UInt8) (k : Nat) (hk : k < l.length), (∀ j (h : j < l.length), j < k → blankB l[j] = false) → blankB l[k] = true → wend l = k
  | b :: l, 0, _, _, h => by
    unfold wend Lib.indexAny
    rw [contains_blank, if_pos (by simpa using h)]
    rfl
  | b :: l, k + 1, hk, ha, h => by
    have h0 := ha 0 (by simp) (by omega)
    have ih := wend_at l k (by simpa using hk) (fun j hj hjk => ha (j + 1) (by simp; omega) (by omega)) (by simpa using h)
    unfold wend at ih ⊢
    unfold Lib.indexAny
    rw [contains_blank, if_neg (by simpa using h0), ih]
    rw [if_neg (by simp)]
    omega

theorem wend_none : ∀ (l : List UInt8), (∀ j (h : j < l.length), blankB l[j] = false) → wend l = -1
  | [], _ => rfl
  | b :: l, ha => by
    have h0 := ha 0 (by simp)
    have ih := wend_none l (fun j hj => ha (j + 1) (by simp; omega))
    unfold wend at ih ⊢
    unfold Lib.indexAny
    rw [contains_blank, if_neg (by simpa using h0), ih]
    rfl

theorem wend_take (l : List UInt8) : (wend l = -1 ∧ wfront l = l ∧ wback l = []) ∨ (∃ k : Nat, wend l = k ∧ k < l.length ∧ wfront l = l.take k ∧ wback l = l.drop k) := by
  induction l with
  | nil => exact .inl ⟨rfl, rfl, rfl⟩
  | cons b l ih =>
    cases h : blankB b
    · have e : wend (b :: l) = if wend l == -1 then -1 else wend l + 1 := by
        unfold wend
        rw [Lib.indexAny, contains_blank, h]
        rfl
      rcases ih with ⟨h1, h2, h3⟩ | ⟨k, h1, h2, h3, h4⟩
      · refine .inl ⟨by rw [e, h1]; rfl, ?_, ?_⟩
        · simp only [wfront, List.takeWhile_cons, h] at h2 ⊢; simp [h2]
        · simp only [wback, List.dropWhile_cons, h] at h3 ⊢; simp [h3]
      · refine .inr ⟨k + 1, ?_, by simp; omega, ?_, ?_⟩
        · rw [e, h1, if_neg (by simp)]; omega
        · simp only [wfront, List.takeWhile_cons, h] at h3 ⊢; simp [h3]
        · simp only [wback, List.dropWhile_cons, h] at h4 ⊢; simp [h4]
    · refine .inr ⟨0, ?_, by simp, ?_, ?_⟩
      · unfold wend; rw [Lib.indexAny, contains_blank, h]; rfl
      · simp [wfront, h]
      · simp [wback, h]

theorem span_at (L : List UInt8) (k : Nat) (hk : k ≤ L.length) (ha : ∀ j (h : j < L.length), j < k → blankB L[j] = false) (he : ∀ h : k < L.length, blankB L[k] = true) : wfront L = L.take k ∧ wback L = L.drop k := by
  by_cases hlt : k < L.length
  · have h1 := wend_at L k hlt ha (he hlt)
    rcases wend_take L with ⟨h2, _⟩ | ⟨k', h2, _, h3, h4⟩
    · omega
    · have : k' = k := by omega
      subst this
      exact ⟨h3, h4⟩
  · have h1 := wend_none L (fun j h => ha j h (by omega))
    have e : k = L.length := by omega
    subst e
    rcases wend_take L with ⟨_, h3, h4⟩ | ⟨k', h2, _⟩
    · rw [h3, h4]; simp
    · omega

end Go.Proofs.YtoelblofdgimfaaDoor
