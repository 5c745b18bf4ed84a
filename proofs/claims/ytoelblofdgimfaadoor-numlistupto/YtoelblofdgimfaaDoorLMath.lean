/-
  Plain facts: quoted texts in a line, with blanks and tabs between and around, are its words.
-/
import Derived.Test.YtoelblofdgimfaaDoorWMath
import Derived.Test.YtoelblofdgimfaaDoorBackMath
namespace Go.Proofs.YtoelblofdgimfaaDoor
open Q

/-- gaps and quoted texts in a row -/
def flat : List (List UInt8 × List UInt8) → List UInt8
  | [] => []
  | p :: t => p.1 ++ quote p.2 ++ flat t

theorem flat_snoc : ∀ (ps : List (List UInt8 × List UInt8)) (g a : List UInt8), flat (ps ++ [(g, a)]) = flat ps ++ g ++ quote a
  | [], g, a => by simp [flat]
  | p :: t, g, a => by simp [flat, flat_snoc t]

/-- every gap is blanks and tabs, none but the first is empty -/
def gapsOk : List (List UInt8 × List UInt8) → Prop
  | [] => True
  | p :: t => (∀ c ∈ p.1, blankB c = true) ∧ (∀ q ∈ t, q.1 ≠ []) ∧ gapsOk t

theorem gapsOk_snoc : ∀ (ps : List (List UInt8 × List UInt8)) (g a : List UInt8), gapsOk ps → (∀ c ∈ g, blankB c = true) → (ps ≠ [] → g ≠ []) → gapsOk (ps ++ [(g, a)])
  | [], g, a, _, h, _ => ⟨h, by simp, trivial⟩
  | p :: t, g, a, hp, h, hn => by
    refine ⟨hp.1, ?_, gapsOk_snoc t g a hp.2.2 h (fun _ => hn (by simp))⟩
    intro q hq
    simp at hq
    rcases hq with hq | rfl
    · exact hp.2.1 q hq
    · exact hn (by simp)

theorem wtrim_gap : ∀ (g l : List UInt8), (∀ c ∈ g, blankB c = true) → wtrim (g ++ l) = wtrim l
  | [], _, _ => rfl
  | c :: g, l, h => by
    rw [List.cons_append, wtrim_cons_blank _ (h c (by simp))]
    exact wtrim_gap g l (fun d hd => h d (by simp [hd]))

theorem good_flat (ps : List (List UInt8 × List UInt8)) (h : gapsOk ps) (hn : ∀ q ∈ ps, q.1 ≠ []) : goodTail (flat ps ++ [9]) = true := by
  cases ps with
  | nil => decide
  | cons p t =>
    have h1 := hn p (by simp)
    obtain ⟨g, a⟩ := p
    cases g with
    | nil => exact absurd rfl h1
    | cons c g =>
      have := h.1 c (by simp)
      simp [flat, goodTail, this]

theorem quote_cons (a : List UInt8) : quote a = 34 :: (qbody a ++ [34]) := by simp [quote]

theorem words_flat : ∀ (ps : List (List UInt8 × List UInt8)) (acc : List (List UInt8)), gapsOk ps → acc.length + ps.length ≤ 32 → wordsA acc (flat ps ++ [9]) = (acc ++ ps.map (·.2), 0)
  | [], acc, _, _ => by
    have : wtrim (flat [] ++ [9]) = [] := by decide
    rw [words_end this]; simp
  | (g, a) :: t, acc, h, hl => by
    have e1 : flat ((g, a) :: t) ++ [9] = g ++ (quote a ++ (flat t ++ [9])) := by simp [flat]
    have e2 : quote a ++ (flat t ++ [9]) = 34 :: (qbody a ++ [34] ++ (flat t ++ [9])) := by rw [quote_cons]; simp
    have hb : blankB 34 = false := by decide
    have ht : wtrim (flat ((g, a) :: t) ++ [9]) = 34 :: (qbody a ++ [34] ++ (flat t ++ [9])) := by
      rw [e1, wtrim_gap g _ h.1, e2, wtrim_cons _ hb]
    have hu := unquote_back a (flat t ++ [9])
    rw [e2] at hu
    have hf := fw_quote_ok (c := 34) (by decide) hu (good_flat t h.2.2 h.2.1)
    rw [words_next ht hf (by simp at hl; omega), words_flat t (acc ++ [a]) h.2.2 (by simp at hl ⊢; omega)]
    simp

theorem words_list (ps : List (List UInt8 × List UInt8)) (h : gapsOk ps) (hl : ps.length ≤ 32) : wordsL (flat ps ++ [9]) = ps.map (·.2) ∧ wordsE (flat ps ++ [9]) = 0 := by
  have := words_flat ps [] h (by simpa using hl)
  unfold wordsL wordsE
  rw [this]; simp

/-- the gap of so many signs -/
def gap (k : Nat) : List UInt8 := ([32, 9, 32, 32] : List UInt8).take (1 + k)
theorem gap_blank (k : Nat) : ∀ c ∈ gap k, blankB c = true := by
  intro c hc
  have : c ∈ ([32, 9, 32, 32] : List UInt8) := List.mem_of_mem_take hc
  have key : ∀ c ∈ ([32, 9, 32, 32] : List UInt8), blankB c = true := by decide
  exact key c this
theorem gap_ne (k : Nat) : gap k ≠ [] := by
  unfold gap
  rw [Nat.add_comm]
  simp
theorem gap_len (k : Nat) : (gap k).length ≤ 4 := by
  unfold gap
  rw [List.length_take]
  exact Nat.min_le_right _ _

theorem next_ok {ps : List (List UInt8 × List UInt8)} {ws : List (List UInt8)} {k : Nat} {g : List UInt8} (hlt : k < ws.length) (h1 : gapsOk ps) (h2 : ps.map (·.2) = ws.take k) (hg : ∀ c ∈ g, blankB c = true) (hne : 0 < k → g ≠ []) (hgl : g.length ≤ 4)
    (hfl : (flat ps).length ≤ k * 3145742) (hwk : ws[k].length ≤ 1048576) :
    ∃ ps', gapsOk ps' ∧ ps'.map (·.2) = ws.take (k + 1) ∧ flat ps' = flat ps ++ g ++ quote ws[k] ∧ (flat ps').length ≤ (k + 1) * 3145742 := by
  have hlen : ps.length = k := by
    have := congrArg List.length h2
    simp at this; omega
  have hq := quote_length ws[k]
  refine ⟨ps ++ [(g, ws[k])], gapsOk_snoc ps g _ h1 hg (fun h => hne ?_), ?_, flat_snoc ps g _, ?_⟩
  · rcases Nat.eq_zero_or_pos k with e | e
    · rw [e] at hlen; exact absurd (List.eq_nil_of_length_eq_zero hlen) h
    · exact e
  · rw [List.map_append, h2, List.take_succ_eq_append_getElem hlt]; rfl
  · rw [flat_snoc]; simp; omega

end Go.Proofs.YtoelblofdgimfaaDoor
