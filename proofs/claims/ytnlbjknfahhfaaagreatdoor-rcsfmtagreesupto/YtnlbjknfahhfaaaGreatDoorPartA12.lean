/-
  Texts that belong together, joined: PaHm, HiMath, HiRuns, HiPc, SpPc, MiRd, HiMp, HiGr, HiCm.
-/
import Derived.Test.YtnlbjknfahhfaaaGreatDoorPartA11
import Derived.Test.YtnlbjknfahhfaaaGreatDoorPartA8
import Derived.Test.YtnlbjknfahhfaaaGreatDoorPartA6
import Derived.Test.YtnlbjknfahhfaaaGreatDoorPartA5
import Derived.Maps.OwnSet
import Derived.Carry
import Derived.Maps.OwnRows
import Derived.Maps.GroupsBeside
import Derived.Deep.CutRange

/- What patience keeps is honest, and what it keeps for sure: plain. -/
set_option maxRecDepth 20000
namespace Go.Proofs.YtnlbjknfahhfaaaGreatDoor

theorem pKeep_front (x y : List Int) (i : Nat) (hi : i < tf x y 0 x.length 0 y.length) : (pKeep x y)[i]? = some (i : Int) := by
  have hm : (⟨(i : Int), (i : Int)⟩ : Pr) ∈ pcs (pmid x y) x y (x.length + 1) 0 x.length 0 y.length := by
    rw [pcs, ends, List.mem_append]
    exact .inl (mem_fp.2 ⟨i, hi, by simp⟩)
  have := (pKeep_ok x y).at hm
  simpa [pKeep] using this
theorem tf_fr (x y : List Int) : ∀ i, i ≤ x.length → i ≤ y.length → tf x y i x.length i y.length = fr (x.drop i) (y.drop i) := by
  intro i
  induction h : x.length - i generalizing i with
  | zero =>
    intro h1 h2
    rw [tf_eq, if_neg (by omega), List.drop_of_length_le (by omega)]
    simp [fr]
  | succ n ih =>
    intro h1 h2
    by_cases hy : i < y.length
    · rw [tf_eq, fr_step x y i (by omega) hy]
      rw [List.getElem?_eq_getElem (by omega), List.getElem?_eq_getElem hy]
      by_cases e : x[i] = y[i]
      · rw [if_pos ⟨by omega, hy, by rw [e]⟩, if_pos e, ih (i + 1) (by omega) (by omega) (by omega)]
      · rw [if_neg (fun q => e (by simpa using q.2.2)), if_neg e]
    · rw [tf_eq, if_neg (by omega), List.drop_of_length_le (l := y) (by omega)]
      cases x.drop i <;> simp [fr]
/-- equal texts have no changes, others have some -/
theorem pKeep_nil (x y : List Int) (hx : x.length ≤ 4096) (hy : y.length ≤ 4096) : mkL (pKeep x y) y.length = [] ↔ x = y := by
  constructor
  · exact nil_same (pKeep_kpt x y).vk (pKeep_kpt x y).len (pKeep_kpt x y).eqs hx hy
  · rintro rfl
    have e : pKeep x x = (List.range x.length).map fun (j : Nat) => (0 : Int) + (j : Int) := by
      apply List.ext_getElem?
      intro i
      by_cases hi : i < x.length
      · rw [pKeep_front x x i (by rw [tf_all]; omega)]
        simp [hi]
      · rw [List.getElem?_eq_none (by rw [(pKeep_kpt x x).len]; omega), List.getElem?_eq_none (by simp; omega)]
    rw [e]
    exact mk_id x.length
theorem pKeep_le (x y : List Int) : prs (pKeep x y) ≤ lc x y := by
  have := hon_le (pKeep x y) x y 0 (pKeep_kpt x y).vk (pKeep_kpt x y).len (pKeep_kpt x y).eqs
  simpa using this
theorem pKeep_first (x y : List Int) (hx : x.length ≤ 4096) (hy : y.length ≤ 4096) {c : Ch} {L : List Ch} (h : mkL (pKeep x y) y.length = c :: L) : (fr x y : Int) ≤ c.A := by
  refine front_le (pKeep_kpt x y).vk (by rw [(pKeep_kpt x y).len]; exact hx) hy h (fr x y) (fun i hi => pKeep_front x y i ?_)
  rw [tf_fr x y 0 (Nat.zero_le _) (Nat.zero_le _)]
  simpa using hi
end Go.Proofs.YtnlbjknfahhfaaaGreatDoor

/- Runs of two rows of numbers, and the one to hold on to: plain. -/
set_option maxRecDepth 20000
namespace Go.Proofs.YtnlbjknfahhfaaaGreatDoor

/-- a run -/
structure Hr where
  X : Nat
  Y : Nat
  N : Nat
  R : Nat
/-- how often the member at a place stands in x -/
def cnt (x : List Int) (k : Nat) : Nat := match x[k]? with
  | some c => x.count c
  | none => x.length
/-- how rare n members from i on are -/
def rar (x : List Int) (i : Nat) : Nat → Nat
  | 0 => x.length
  | n + 1 => min (rar x i n) (cnt x (i + n))
/-- how many are the same from i and j on -/
def tl (x y : List Int) (i j : Nat) : Nat := tf x y i x.length j y.length
/-- how many are the same ahead of i and j -/
def hd (x y : List Int) (i j : Nat) : Nat := tb x y 0 i 0 j
theorem tl_step (x y : List Int) (i j : Nat) : tl x y i j = if i < x.length ∧ j < y.length ∧ x[i]? = y[j]? then tl x y (i + 1) (j + 1) + 1 else 0 := by unfold tl; rw [tf_eq]
theorem hd_step (x y : List Int) (i j : Nat) : hd x y i j = if 0 < i ∧ 0 < j ∧ x[i - 1]? = y[j - 1]? then hd x y (i - 1) (j - 1) + 1 else 0 := by unfold hd; rw [tb]
theorem hd_le (x y : List Int) (i j : Nat) : hd x y i j ≤ i ∧ hd x y i j ≤ j := by have := tb_le x y 0 i 0 j; unfold hd; omega
theorem tl_le (x y : List Int) (i j : Nat) : tl x y i j ≤ x.length - i ∧ tl x y i j ≤ y.length - j := tf_le x y i x.length j y.length
theorem tl_same (x y : List Int) (i j : Nat) : ∀ k, k < tl x y i j → x[i + k]? = y[j + k]? := tf_same x y i x.length j y.length
theorem hd_same (x y : List Int) (i j : Nat) : ∀ k, k < hd x y i j → x[i - (k + 1)]? = y[j - (k + 1)]? := tb_same x y 0 i 0 j
/-- no run is cut at its end -/
theorem tl_end (x y : List Int) (i j : Nat) : ¬ (i + tl x y i j < x.length ∧ j + tl x y i j < y.length ∧ x[i + tl x y i j]? = y[j + tl x y i j]?) := by
  induction h : x.length - i generalizing i j with
  | zero => rw [tl_step, if_neg (by omega)]; omega
  | succ n ih =>
    rw [tl_step]
    split
    · have := ih (i + 1) (j + 1) (by omega)
      rw [show i + (tl x y (i + 1) (j + 1) + 1) = i + 1 + tl x y (i + 1) (j + 1) by omega, show j + (tl x y (i + 1) (j + 1) + 1) = j + 1 + tl x y (i + 1) (j + 1) by omega]
      exact this
    · rename_i h2
      exact fun h3 => h2 (by simpa using h3)
theorem hd_end (x y : List Int) (i j : Nat) : ¬ (0 < i - hd x y i j ∧ 0 < j - hd x y i j ∧ x[i - hd x y i j - 1]? = y[j - hd x y i j - 1]?) := by
  induction i generalizing j with
  | zero => omega
  | succ i ih =>
    rw [hd_step]
    split
    · rename_i h
      have := ih (j - 1)
      rw [Nat.add_sub_cancel]
      rw [show i + 1 - (hd x y i (j - 1) + 1) = i - hd x y i (j - 1) by omega, show j - (hd x y i (j - 1) + 1) = j - 1 - hd x y i (j - 1) by omega]
      exact this
    · rename_i h
      exact fun h2 => h (by simpa using h2)
/-- how many are the same is told by where they end -/
theorem tl_of (x y : List Int) (i j n : Nat) (hx : i + n ≤ x.length) (hy : j + n ≤ y.length) (h : ∀ k, k < n → x[i + k]? = y[j + k]?) : tl x y i j = n + tl x y (i + n) (j + n) := by
  induction n generalizing i j with
  | zero => simp
  | succ n ih =>
    rw [tl_step, if_pos ⟨by omega, by omega, by simpa using h 0 (by omega)⟩, ih (i + 1) (j + 1) (by omega) (by omega) (fun k hk => by
      have := h (k + 1) (by omega)
      rw [show i + 1 + k = i + (k + 1) by omega, show j + 1 + k = j + (k + 1) by omega]
      exact this), show i + 1 + n = i + (n + 1) by omega, show j + 1 + n = j + (n + 1) by omega]
    omega
theorem hd_of (x y : List Int) (i j n : Nat) (h : ∀ k, k < n → x[i + k]? = y[j + k]?) (h0 : ¬ (0 < i ∧ 0 < j ∧ x[i - 1]? = y[j - 1]?)) : hd x y (i + n) (j + n) = n := by
  induction n with
  | zero => rw [Nat.add_zero, Nat.add_zero, hd_step, if_neg h0]
  | succ n ih =>
    rw [hd_step, if_pos ⟨by omega, by omega, by simpa using h n (by omega)⟩, show i + (n + 1) - 1 = i + n by omega, show j + (n + 1) - 1 = j + n by omega, ih (fun k hk => h k (by omega))]
/-- a run of x and y -/
structure IsRun (x y : List Int) (r : Hr) : Prop where
  hx : r.X < x.length
  hy : r.Y < y.length
  same : x[r.X]? = y[r.Y]?
  fst : ¬ (0 < r.X ∧ 0 < r.Y ∧ x[r.X - 1]? = y[r.Y - 1]?)
  n : r.N = tl x y r.X r.Y
  r : r.R = rar x r.X r.N
/-- rather held on to -/
def hlt (r b : Hr) : Prop := r.R < b.R ∨ (r.R = b.R ∧ (b.N < r.N ∨ (r.N = b.N ∧ (r.X < b.X ∨ (r.X = b.X ∧ r.Y < b.Y)))))
def Bst (x y : List Int) (b : Hr) : Prop := IsRun x y b ∧ ∀ r, IsRun x y r → r = b ∨ hlt b r
theorem Bst.one {x y : List Int} {a b : Hr} (ha : Bst x y a) (hb : Bst x y b) : a = b := by
  rcases ha.2 b hb.1 with h | h
  · exact h.symm
  · rcases hb.2 a ha.1 with h' | h'
    · exact h'
    · unfold hlt at h h'
      omega
theorem IsRun.pos {x y : List Int} {r : Hr} (h : IsRun x y r) : 0 < r.N := by
  rw [h.n, tl_step, if_pos ⟨h.hx, h.hy, h.same⟩]
  omega
theorem cnt_le (x : List Int) (k : Nat) : cnt x k ≤ x.length := by
  unfold cnt
  split
  · exact List.count_le_length
  · exact Nat.le_refl _
theorem cnt_at {x : List Int} {k : Nat} {c : Int} (h : x[k]? = some c) : cnt x k = x.count c := by unfold cnt; rw [h]
theorem rar_le (x : List Int) (i n k : Nat) (hk : k < n) : rar x i n ≤ cnt x (i + k) := by
  induction n with
  | zero => omega
  | succ n ih =>
    rw [rar]
    by_cases e : k = n
    · subst e; omega
    · have := ih (by omega); omega
theorem rar_at (x : List Int) (i n : Nat) (hn : 0 < n) : ∃ k, k < n ∧ rar x i n = cnt x (i + k) := by
  induction n with
  | zero => omega
  | succ n ih =>
    rw [rar]
    by_cases h0 : n = 0
    · subst h0
      refine ⟨0, by omega, ?_⟩
      have := cnt_le x (i + 0)
      rw [rar]
      omega
    · obtain ⟨k, h1, h2⟩ := ih (by omega)
      by_cases h : rar x i n ≤ cnt x (i + n)
      · exact ⟨k, by omega, by omega⟩
      · exact ⟨n, by omega, by omega⟩

/-- going through a row: the first one that no other outdoes -/
def pickL (better : Hr → Hr → Bool) (b : Hr) (l : List Hr) : Hr := l.foldl (fun b r => if better r b then r else b) b
/-- the reference: rarer, or as rare and longer -/
def btR (r b : Hr) : Bool := decide (r.R < b.R) || (decide (r.R = b.R) && decide (b.N < r.N))
/-- in the order of their places -/
def lex (a b : Hr) : Prop := a.X < b.X ∨ (a.X = b.X ∧ a.Y < b.Y)
theorem pickR_spec (l : List Hr) : ∀ (P : List Hr) (b : Hr), b ∈ P → (∀ r ∈ P, r = b ∨ hlt b r) → (P ++ l).Pairwise lex → pickL btR b l ∈ P ++ l ∧ ∀ r ∈ P ++ l, r = pickL btR b l ∨ hlt (pickL btR b l) r := by
  induction l with
  | nil => intro P b hb h _; simp only [List.append_nil]; exact ⟨hb, h⟩
  | cons c l ih =>
    intro P b hb h hp
    have e : P ++ c :: l = (P ++ [c]) ++ l := by simp
    rw [e] at hp ⊢
    have hbc : lex b c := by
      have := (List.pairwise_append.1 (List.pairwise_append.1 hp).1).2.2 b hb c (List.mem_singleton.2 rfl)
      exact this
    unfold pickL
    rw [List.foldl_cons]
    by_cases hb' : btR c b = true
    · rw [if_pos hb']
      refine ih (P ++ [c]) c (by simp) (fun r hr => ?_) hp
      rcases List.mem_append.1 hr with hr | hr
      · right
        have h1 := h r hr
        simp [btR] at hb'
        rcases h1 with rfl | h1
        · unfold hlt; omega
        · unfold hlt at h1 ⊢; omega
      · left
        simpa using hr
    · rw [if_neg hb']
      refine ih (P ++ [c]) b (by simp [hb]) (fun r hr => ?_) hp
      rcases List.mem_append.1 hr with hr | hr
      · exact h r hr
      · right
        have e2 : r = c := by simpa using hr
        subst e2
        simp [btR] at hb'
        unfold lex at hbc
        unfold hlt
        omega
/-- the code: longer, or as long and ahead -/
def btC (r b : Hr) : Bool := decide (b.N < r.N) || (decide (r.N = b.N) && (decide (r.X < b.X) || (decide (r.X = b.X) && decide (r.Y < b.Y))))
theorem pickC_spec (l : List Hr) : ∀ b : Hr, (pickL btC b l = b ∨ pickL btC b l ∈ l) ∧ btC b (pickL btC b l) = false ∧ ∀ r ∈ l, btC r (pickL btC b l) = false := by
  induction l with
  | nil => intro b; refine ⟨.inl rfl, ?_, fun r hr => by simp at hr⟩; simp [pickL, btC]
  | cons c l ih =>
    intro b
    have e : pickL btC b (c :: l) = pickL btC (if btC c b then c else b) l := rfl
    rw [e]
    by_cases hb : btC c b = true
    · rw [if_pos hb]
      obtain ⟨h1, h2, h3⟩ := ih c
      refine ⟨.inr ?_, ?_, fun r hr => ?_⟩
      · rcases h1 with h1 | h1
        · rw [h1]; exact List.mem_cons_self ..
        · exact List.mem_cons_of_mem _ h1
      · simp [btC] at hb h2 ⊢; omega
      · rcases List.mem_cons.1 hr with rfl | hr
        · exact h2
        · exact h3 r hr
    · rw [if_neg hb]
      obtain ⟨h1, h2, h3⟩ := ih b
      refine ⟨?_, h2, fun r hr => ?_⟩
      · rcases h1 with h1 | h1
        · exact .inl h1
        · exact .inr (List.mem_cons_of_mem _ h1)
      · rcases List.mem_cons.1 hr with rfl | hr
        · simp [btC] at hb h2 ⊢; omega
        · exact h3 r hr
end Go.Proofs.YtnlbjknfahhfaaaGreatDoor

/- All runs, and those that hold one of the rarest members; both ways find the same one: plain. -/
set_option maxRecDepth 20000
namespace Go.Proofs.YtnlbjknfahhfaaaGreatDoor

/-- the run that begins at two places, if one does -/
def rj (x y : List Int) (i j : Nat) : List Hr := if x[i]? = y[j]? ∧ ¬ (0 < i ∧ 0 < j ∧ x[i - 1]? = y[j - 1]?) then [⟨i, j, tl x y i j, rar x i (tl x y i j)⟩] else []
def rowR (x y : List Int) (i : Nat) : List Hr := (List.range' 0 y.length).flatMap (rj x y i)
/-- all runs -/
def runs (x y : List Int) : List Hr := (List.range' 0 x.length).flatMap (rowR x y)
theorem mem_runs (x y : List Int) (r : Hr) : r ∈ runs x y ↔ IsRun x y r := by
  unfold runs rowR rj
  simp only [List.mem_flatMap, List.mem_range'_1, Nat.zero_add]
  constructor
  · rintro ⟨i, ⟨_, hi⟩, j, ⟨_, hj⟩, h⟩
    split at h
    · rename_i hh
      simp at h
      subst h
      exact ⟨hi, hj, hh.1, hh.2, rfl, rfl⟩
    · simp at h
  · intro h
    refine ⟨r.X, ⟨Nat.zero_le _, h.hx⟩, r.Y, ⟨Nat.zero_le _, h.hy⟩, ?_⟩
    rw [if_pos ⟨h.same, h.fst⟩]
    simp
    obtain ⟨X, Y, N, R⟩ := r
    have h1 := h.n
    have h2 := h.r
    simp only at h1 h2 ⊢
    rw [h2, ← h1]
theorem flat_lex {n : Nat} (f : Nat → List Hr) (s : Nat) (h1 : ∀ i, ∀ r ∈ f i, r.X = i) (h2 : ∀ i, (f i).Pairwise lex) : ((List.range' s n).flatMap f).Pairwise lex := by
  induction n generalizing s with
  | zero => exact List.Pairwise.nil
  | succ n ih =>
    rw [List.range'_succ, List.flatMap_cons]
    refine List.pairwise_append.2 ⟨h2 s, ih (s + 1), fun a ha b hb => ?_⟩
    rw [List.mem_flatMap] at hb
    obtain ⟨i, hi, hb⟩ := hb
    rw [List.mem_range'_1] at hi
    have e1 := h1 s a ha
    have e2 := h1 i b hb
    left
    omega
theorem row_lex {n : Nat} (f : Nat → List Hr) (s X : Nat) (h1 : ∀ j, ∀ r ∈ f j, r.X = X ∧ r.Y = j) (h2 : ∀ j, (f j).Pairwise lex) : ((List.range' s n).flatMap f).Pairwise lex := by
  induction n generalizing s with
  | zero => exact List.Pairwise.nil
  | succ n ih =>
    rw [List.range'_succ, List.flatMap_cons]
    refine List.pairwise_append.2 ⟨h2 s, ih (s + 1), fun a ha b hb => ?_⟩
    rw [List.mem_flatMap] at hb
    obtain ⟨i, hi, hb⟩ := hb
    rw [List.mem_range'_1] at hi
    have e1 := h1 s a ha
    have e2 := h1 i b hb
    right
    omega
theorem rj_at (x y : List Int) (i j : Nat) : (∀ r ∈ rj x y i j, r.X = i ∧ r.Y = j) ∧ (rj x y i j).Pairwise lex := by
  unfold rj
  split
  · refine ⟨fun r hr => ?_, List.pairwise_singleton _ _⟩
    simp at hr
    subst hr
    exact ⟨rfl, rfl⟩
  · exact ⟨fun r hr => by simp at hr, List.Pairwise.nil⟩
theorem runs_lex (x y : List Int) : (runs x y).Pairwise lex := by
  unfold runs
  refine flat_lex _ 0 (fun i r hr => ?_) (fun i => row_lex _ 0 i (fun j r hr => (rj_at x y i j).1 r hr) (fun j => (rj_at x y i j).2))
  unfold rowR at hr
  rw [List.mem_flatMap] at hr
  obtain ⟨j, _, hr⟩ := hr
  exact ((rj_at x y i j).1 r hr).1
/-- the run to hold on to -/
def best (x y : List Int) : Option Hr := match runs x y with
  | [] => none
  | b :: l => some (pickL btR b l)
theorem best_some {x y : List Int} {b : Hr} (h : best x y = some b) : Bst x y b := by
  unfold best at h
  cases hr : runs x y with
  | nil => rw [hr] at h; cases h
  | cons c l =>
    rw [hr] at h
    cases h
    have := pickR_spec l [c] c (by simp) (fun r hr => by simp at hr; exact .inl hr) (by have := runs_lex x y; rw [hr] at this; exact this)
    have e : [c] ++ l = runs x y := by rw [hr]; rfl
    rw [e] at this
    exact ⟨(mem_runs x y _).1 this.1, fun r h => this.2 r ((mem_runs x y r).2 h)⟩
theorem best_none {x y : List Int} (h : best x y = none) (r : Hr) : ¬ IsRun x y r := by
  intro hr
  have := (mem_runs x y r).2 hr
  unfold best at h
  cases hs : runs x y with
  | nil => rw [hs] at this; simp at this
  | cons c l => rw [hs] at h; cases h
theorem best_of {x y : List Int} {b : Hr} (h : Bst x y b) : best x y = some b := by
  cases hb : best x y with
  | none => exact absurd h.1 (best_none hb b)
  | some c => rw [(best_some hb).one h]

/-- the run in which two equal members stand -/
def runAt (x y : List Int) (i j R : Nat) : Hr := ⟨i - hd x y i j, j - hd x y i j, hd x y i j + tl x y i j, R⟩
/-- a rarest member stands ahead of it in its run -/
def skp (x : List Int) (R i t : Nat) : Bool := (List.range t).any fun s => cnt x (i - (s + 1)) == R
/-- where the class of a member stands in y, if it is one of the rarest -/
def pj (x y : List Int) (R i : Nat) : List Nat := if cnt x i = R then (List.range y.length).filter (fun j => decide (y[j]? = x[i]?)) else []
def ck (x y : List Int) (R i j : Nat) : List Hr := if skp x R i (hd x y i j) then [] else [runAt x y i j R]
def cands (x y : List Int) (R : Nat) : List Hr := (List.range' 0 x.length).flatMap fun i => (pj x y R i).flatMap (ck x y R i)
theorem mem_pj (x y : List Int) (R i j : Nat) : j ∈ pj x y R i ↔ cnt x i = R ∧ j < y.length ∧ x[i]? = y[j]? := by
  unfold pj
  split
  · rename_i h
    simp [h, eq_comm]
  · rename_i h
    simp [h]
theorem mem_cands (x y : List Int) (R : Nat) (r : Hr) : r ∈ cands x y R ↔ ∃ i j, i < x.length ∧ j < y.length ∧ x[i]? = y[j]? ∧ cnt x i = R ∧ skp x R i (hd x y i j) = false ∧ r = runAt x y i j R := by
  unfold cands ck
  simp only [List.mem_flatMap, List.mem_range'_1, Nat.zero_add, mem_pj]
  constructor
  · rintro ⟨i, ⟨_, hi⟩, j, ⟨h1, h2, h3⟩, h⟩
    split at h
    · simp at h
    · rename_i hs
      simp at h
      exact ⟨i, j, hi, h2, h3, h1, by simpa using hs, h⟩
  · rintro ⟨i, j, h1, h2, h3, h4, h5, rfl⟩
    refine ⟨i, ⟨Nat.zero_le _, h1⟩, j, ⟨h4, h2, h3⟩, ?_⟩
    rw [h5]
    simp
/-- R is how often the rarest class stands that is in both -/
structure Rst (x y : List Int) (R : Nat) : Prop where
  le : ∀ i j, i < x.length → j < y.length → x[i]? = y[j]? → R ≤ cnt x i
  ex : ∃ i j, i < x.length ∧ j < y.length ∧ x[i]? = y[j]? ∧ cnt x i = R
section
variable {x y : List Int} {R : Nat}
theorem run_ge (h : Rst x y R) {r : Hr} (hr : IsRun x y r) : R ≤ r.R := by
  obtain ⟨k, h1, h2⟩ := rar_at x r.X r.N hr.pos
  rw [hr.r, h2]
  have h3 := tl_le x y r.X r.Y
  have h4 := hr.n
  exact h.le (r.X + k) (r.Y + k) (by omega) (by omega) (tl_same x y r.X r.Y k (by omega))
theorem runAt_run (h : Rst x y R) {i j : Nat} (hi : i < x.length) (hj : j < y.length) (he : x[i]? = y[j]?) (hc : cnt x i = R) : IsRun x y (runAt x y i j R) := by
  have h0 := hd_le x y i j
  have hn : tl x y (i - hd x y i j) (j - hd x y i j) = hd x y i j + tl x y i j := by
    have := tl_of x y (i - hd x y i j) (j - hd x y i j) (hd x y i j) (by omega) (by omega) (fun k hk => by
      have := hd_same x y i j (hd x y i j - 1 - k) (by omega)
      rw [show i - (hd x y i j - 1 - k + 1) = i - hd x y i j + k by omega, show j - (hd x y i j - 1 - k + 1) = j - hd x y i j + k by omega] at this
      exact this)
    rw [show i - hd x y i j + hd x y i j = i by omega, show j - hd x y i j + hd x y i j = j by omega] at this
    exact this
  have hpos : 0 < tl x y i j := by rw [tl_step, if_pos ⟨hi, hj, he⟩]; omega
  have hle := tl_le x y i j
  have hs : x[i - hd x y i j]? = y[j - hd x y i j]? := by
    have := tl_same x y (i - hd x y i j) (j - hd x y i j) 0 (by omega)
    simpa using this
  refine ⟨by show i - hd x y i j < _; omega, by show j - hd x y i j < _; omega, hs, hd_end x y i j, hn.symm, ?_⟩
  show R = rar x (i - hd x y i j) (hd x y i j + tl x y i j)
  have h1 := rar_le x (i - hd x y i j) (hd x y i j + tl x y i j) (hd x y i j) (by omega)
  rw [show i - hd x y i j + hd x y i j = i by omega, hc] at h1
  obtain ⟨k, h2, h3⟩ := rar_at x (i - hd x y i j) (hd x y i j + tl x y i j) (by omega)
  have h4 := h.le (i - hd x y i j + k) (j - hd x y i j + k) (by omega) (by omega) (tl_same x y _ _ k (by omega))
  omega
theorem cand_run (h : Rst x y R) {r : Hr} (hr : r ∈ cands x y R) : IsRun x y r ∧ r.R = R := by
  obtain ⟨i, j, h1, h2, h3, h4, _, rfl⟩ := (mem_cands x y R r).1 hr
  exact ⟨runAt_run h h1 h2 h3 h4, rfl⟩
theorem run_cand {r : Hr} (hr : IsRun x y r) (hR : r.R = R) : r ∈ cands x y R := by
  have h1 := tl_le x y r.X r.Y
  have hn := hr.n
  obtain ⟨k0, hk0, hk1⟩ := rar_at x r.X r.N hr.pos
  have hex : ∃ k, k < r.N ∧ cnt x (r.X + k) = R ∧ ∀ s, s < k → cnt x (r.X + s) ≠ R := by
    have : ∀ m, (∃ k, k < m ∧ k < r.N ∧ cnt x (r.X + k) = R) → ∃ k, k < r.N ∧ cnt x (r.X + k) = R ∧ ∀ s, s < k → cnt x (r.X + s) ≠ R := by
      intro m
      induction m with
      | zero => rintro ⟨k, hk, _⟩; omega
      | succ m ih =>
        rintro ⟨k, h1, h2, h3⟩
        by_cases he : ∃ k', k' < m ∧ k' < r.N ∧ cnt x (r.X + k') = R
        · exact ih he
        · refine ⟨k, h2, h3, fun s hs hc => he ⟨s, by omega, by omega, hc⟩⟩
    exact this (k0 + 1) ⟨k0, by omega, hk0, by rw [← hk1, ← hr.r, hR]⟩
  obtain ⟨k, hk, hkc, hks⟩ := hex
  have hsm := fun s (hs : s < r.N) => tl_same x y r.X r.Y s (by omega)
  have hhd : hd x y (r.X + k) (r.Y + k) = k := hd_of x y r.X r.Y k (fun s hs => hsm s (by omega)) hr.fst
  refine (mem_cands x y R r).2 ⟨r.X + k, r.Y + k, by omega, by omega, hsm k hk, hkc, ?_, ?_⟩
  · rw [hhd]
    unfold skp
    rw [List.any_eq_false]
    intro s hs
    rw [List.mem_range] at hs
    rw [show r.X + k - (s + 1) = r.X + (k - (s + 1)) by omega]
    simpa using hks (k - (s + 1)) (by omega)
  · have := tl_of x y r.X r.Y k (by omega) (by omega) (fun s hs => hsm s (by omega))
    unfold runAt
    rw [hhd]
    obtain ⟨X, Y, N, R'⟩ := r
    simp only at *
    subst hR
    congr 1
    · omega
    · omega
    · omega
/-- what the code finds is the one to hold on to -/
theorem code_best (h : Rst x y R) : Bst x y (pickL btC ⟨0, 0, 0, 0⟩ (cands x y R)) := by
  obtain ⟨h1, h2, h3⟩ := pickC_spec (cands x y R) ⟨0, 0, 0, 0⟩
  have hmem : pickL btC ⟨0, 0, 0, 0⟩ (cands x y R) ∈ cands x y R := by
    rcases h1 with h1 | h1
    · exfalso
      obtain ⟨i, j, g1, g2, g3, g4⟩ := h.ex
      have hr := runAt_run h g1 g2 g3 g4
      have := h3 _ (run_cand hr rfl)
      rw [h1] at this
      have hp := hr.pos
      simp [btC] at this
      omega
    · exact h1
  generalize pickL btC ⟨0, 0, 0, 0⟩ (cands x y R) = b at *
  obtain ⟨hb, hbR⟩ := cand_run h hmem
  refine ⟨hb, fun r hr => ?_⟩
  have hge := run_ge h hr
  by_cases e : r.R = R
  · have := h3 r (run_cand hr e)
    simp [btC] at this
    unfold hlt
    by_cases q : r.N = b.N ∧ r.X = b.X ∧ r.Y = b.Y
    · left
      obtain ⟨X, Y, N, R'⟩ := r
      obtain ⟨X2, Y2, N2, R2⟩ := b
      simp only at *
      obtain ⟨q1, q2, q3⟩ := q
      subst q1 q2 q3 e
      rw [hbR]
    · right
      omega
  · right
    unfold hlt
    omega
end
/-- the least number of times that a class of y stands in x, with what was found ahead of it; 0: none -/
def rs (x : List Int) : Nat → List Int → Nat
  | l, [] => l
  | l, c :: y => rs x (if 0 < x.count c ∧ (l = 0 ∨ x.count c < l) then x.count c else l) y
theorem rs_spec (x : List Int) (y : List Int) : ∀ l : Nat, (rs x l y = l ∨ ∃ c ∈ y, x.count c = rs x l y ∧ 0 < x.count c) ∧ (∀ c ∈ y, 0 < x.count c → 0 < rs x l y ∧ rs x l y ≤ x.count c) ∧ (0 < l → 0 < rs x l y ∧ rs x l y ≤ l) := by
  induction y with
  | nil => intro l; exact ⟨.inl rfl, fun c hc => by simp at hc, fun h => ⟨h, Nat.le_refl _⟩⟩
  | cons c y ih =>
    intro l
    rw [rs]
    obtain ⟨h1, h2, h3⟩ := ih (if 0 < x.count c ∧ (l = 0 ∨ x.count c < l) then x.count c else l)
    by_cases h : 0 < x.count c ∧ (l = 0 ∨ x.count c < l)
    · rw [if_pos h] at h1 h2 h3 ⊢
      refine ⟨.inr ?_, fun d hd hd0 => ?_, fun hl => ?_⟩
      · rcases h1 with h1 | ⟨d, hd, h1⟩
        · exact ⟨c, List.mem_cons_self .., h1.symm, h.1⟩
        · exact ⟨d, List.mem_cons_of_mem _ hd, h1⟩
      · rcases List.mem_cons.1 hd with rfl | hd
        · exact h3 h.1
        · exact h2 d hd hd0
      · have := h3 h.1
        omega
    · rw [if_neg h] at h1 h2 h3 ⊢
      refine ⟨?_, fun d hd hd0 => ?_, h3⟩
      · rcases h1 with h1 | ⟨d, hd, h1⟩
        · exact .inl h1
        · exact .inr ⟨d, List.mem_cons_of_mem _ hd, h1⟩
      · rcases List.mem_cons.1 hd with rfl | hd
        · have := h3 (by omega)
          omega
        · exact h2 d hd hd0
theorem rs_zero {x y : List Int} (h : rs x 0 y = 0) (r : Hr) : ¬ IsRun x y r := by
  intro hr
  have h2 := (rs_spec x y 0).2.1 (y[r.Y]'hr.hy) (List.getElem_mem hr.hy) (by
    have := hr.same
    rw [List.getElem?_eq_getElem hr.hx, List.getElem?_eq_getElem hr.hy] at this
    rw [← Option.some.inj this]
    exact List.count_pos_iff.2 (List.getElem_mem hr.hx))
  omega
theorem rs_rst {x y : List Int} {R : Nat} (hR : rs x 0 y = R) (h0 : 0 < R) : Rst x y R := by
  obtain ⟨h1, h2, _⟩ := rs_spec x y 0
  rw [hR] at h1 h2
  refine ⟨fun i j hi hj he => ?_, ?_⟩
  · rw [List.getElem?_eq_getElem hi, List.getElem?_eq_getElem hj] at he
    have hc : cnt x i = x.count x[i] := cnt_at (List.getElem?_eq_getElem hi)
    rw [hc]
    have := h2 y[j] (List.getElem_mem hj) (by rw [← Option.some.inj he]; exact List.count_pos_iff.2 (List.getElem_mem hi))
    rw [Option.some.inj he]
    exact this.2
  · rcases h1 with h1 | ⟨c, hc, h1, h3⟩
    · omega
    · obtain ⟨j, hj, ej⟩ := List.getElem_of_mem hc
      obtain ⟨i, hi, ei⟩ := List.getElem_of_mem (List.count_pos_iff.1 h3)
      refine ⟨i, j, hi, hj, by rw [List.getElem?_eq_getElem hi, List.getElem?_eq_getElem hj, ei, ej], ?_⟩
      rw [cnt_at (List.getElem?_eq_getElem hi), ei, h1]
end Go.Proofs.YtnlbjknfahhfaaaGreatDoor

/- What is kept of two pieces, by the layer histogram: plain. -/
set_option maxRecDepth 20000
namespace Go.Proofs.YtnlbjknfahhfaaaGreatDoor

/-- what is kept of a middle, by the run to hold on to -/
def hsel (x y : List Int) (rec : Nat → Nat → Nat → Nat → List Pr) (a b c d : Nat) : Option Hr → List Pr
  | none => []
  | some r => if 64 < r.R then lp a c (kp 0 (sub x a b) (sub y c d)) else fp (a + r.X) (c + r.Y) r.N ++ (rec a (a + r.X) c (c + r.Y) ++ rec (a + r.X + r.N) b (c + r.Y + r.N) d)
def hmid (x y : List Int) (rec : Nat → Nat → Nat → Nat → List Pr) (a b c d : Nat) : List Pr := hsel x y rec a b c d (best (sub x a b) (sub y c d))
/-- a run of two pieces lies within them -/
theorem run_in {x y : List Int} {a b c d : Nat} (hb : b ≤ x.length) (hd : d ≤ y.length) {r : Hr} (h : IsRun (sub x a b) (sub y c d) r) : 0 < r.N ∧ a + r.X + r.N ≤ b ∧ c + r.Y + r.N ≤ d ∧ ∀ i, i < r.N → x[a + r.X + i]? = y[c + r.Y + i]? := by
  have h1 := tl_le (sub x a b) (sub y c d) r.X r.Y
  have h2 := h.n
  have h3 := h.hx
  have h4 := h.hy
  have h5 := h.pos
  rw [sub_length x a b hb] at h1 h3
  rw [sub_length y c d hd] at h1 h4
  refine ⟨h5, by omega, by omega, fun i hi => ?_⟩
  have := tl_same (sub x a b) (sub y c d) r.X r.Y i (by omega)
  rw [sub_at x a b _ (by omega), sub_at y c d _ (by omega)] at this
  rw [Nat.add_assoc, Nat.add_assoc]
  exact this
theorem hmid_ok (x y : List Int) : MOk (hmid x y) x y := by
  intro rec a b c d hab hb hcd hd hrec
  unfold hmid
  cases hr : best (sub x a b) (sub y c d) with
  | none => exact Okp.nil _ _ _ _
  | some r =>
    rw [hsel]
    have hin := run_in hb hd (best_some hr).1
    split
    · exact least_ok x y a b c d (by omega) hb (by omega) hd
    · have h1 := fp_ok (x := x) (y := y) (a + r.X) (c + r.Y) r.N hin.2.2.2
      have h2 := hrec a (a + r.X) c (c + r.Y) (by omega) (by omega) (by omega) (by omega)
      have h3 := hrec (a + r.X + r.N) b (c + r.Y + r.N) d (by omega) hb (by omega) hd
      have h23 := h2.cat h3 (.inl ⟨by omega, by omega⟩) (A := a) (B := b) (C := c) (D := d) ⟨by omega, by omega⟩ ⟨by omega, by omega⟩ ⟨by omega, by omega⟩ ⟨by omega, by omega⟩
      refine ⟨fun p hp => ?_, fun p hp q hq => ?_, fun p hp => ?_⟩
      · rcases List.mem_append.1 hp with hp | hp
        · exact (h1.mono (by omega) (by omega) (by omega) (by omega) : Okp x y a b c d _).wn p hp
        · exact h23.wn p hp
      · have hx : ∀ p ∈ fp (a + r.X) (c + r.Y) r.N, ∀ q ∈ rec a (a + r.X) c (c + r.Y) ++ rec (a + r.X + r.N) b (c + r.Y + r.N) d, ab q p ∨ ab p q := by
          intro p hp q hq
          have e1 := h1.wn p hp
          unfold Wn at e1
          rcases List.mem_append.1 hq with hq | hq
          · have e2 := h2.wn q hq
            unfold Wn at e2
            exact .inr ⟨by omega, by omega⟩
          · have e2 := h3.wn q hq
            unfold Wn at e2
            exact .inl ⟨by omega, by omega⟩
        rcases List.mem_append.1 hp with hp | hp <;> rcases List.mem_append.1 hq with hq | hq
        · exact h1.ris p hp q hq
        · exact .inr (hx p hp q hq)
        · exact .inr ((hx q hq p hp).symm)
        · exact h23.ris p hp q hq
      · rcases List.mem_append.1 hp with hp | hp
        · exact h1.eqs p hp
        · exact h23.eqs p hp
/-- what histogram keeps -/
def hKeep (x y : List Int) : List Int := wrk (List.replicate x.length (-1)) (pcs (hmid x y) x y (x.length + 1) 0 x.length 0 y.length)
theorem hKeep_ok (x y : List Int) : Okp x y 0 x.length 0 y.length (pcs (hmid x y) x y (x.length + 1) 0 x.length 0 y.length) := pcs_ok (hmid_ok x y) _ 0 x.length 0 y.length (Nat.zero_le _) (Nat.le_refl _) (Nat.zero_le _) (Nat.le_refl _)
theorem hKeep_kpt (x y : List Int) : Kpt x y (hKeep x y) := (hKeep_ok x y).kpt
theorem hKeep_front (x y : List Int) (i : Nat) (hi : i < tf x y 0 x.length 0 y.length) : (hKeep x y)[i]? = some (i : Int) := by
  have hm : (⟨(i : Int), (i : Int)⟩ : Pr) ∈ pcs (hmid x y) x y (x.length + 1) 0 x.length 0 y.length := by
    rw [pcs, ends, List.mem_append]
    exact .inl (mem_fp.2 ⟨i, hi, by simp⟩)
  have := (hKeep_ok x y).at hm
  simpa [hKeep] using this
theorem hKeep_nil (x y : List Int) (hx : x.length ≤ 4096) (hy : y.length ≤ 4096) : mkL (hKeep x y) y.length = [] ↔ x = y := by
  constructor
  · exact nil_same (hKeep_kpt x y).vk (hKeep_kpt x y).len (hKeep_kpt x y).eqs hx hy
  · rintro rfl
    have e : hKeep x x = (List.range x.length).map fun (j : Nat) => (0 : Int) + (j : Int) := by
      apply List.ext_getElem?
      intro i
      by_cases hi : i < x.length
      · rw [hKeep_front x x i (by rw [tf_all]; omega)]
        simp [hi]
      · rw [List.getElem?_eq_none (by rw [(hKeep_kpt x x).len]; omega), List.getElem?_eq_none (by simp; omega)]
    rw [e]
    exact mk_id x.length
theorem hKeep_le (x y : List Int) : prs (hKeep x y) ≤ lc x y := by
  have := hon_le (hKeep x y) x y 0 (hKeep_kpt x y).vk (hKeep_kpt x y).len (hKeep_kpt x y).eqs
  simpa using this
theorem prs_pos {K : List Int} {i : Nat} {z : Int} (h : K[i]? = some z) (hz : 0 ≤ z) : 0 < prs K := by
  unfold prs
  rw [List.length_pos_iff_exists_mem]
  exact ⟨z, List.mem_filter.2 ⟨List.mem_of_getElem? h, by simpa using hz⟩⟩
theorem lp_ne {K : List Int} (h : 0 < prs K) : ∀ a c, lp a c K ≠ [] := by
  induction K with
  | nil => simp [prs] at h
  | cons z K ih =>
    intro a c
    rw [lp]
    by_cases e : z = -1
    · rw [if_pos e, List.nil_append]
      refine ih ?_ _ _
      subst e
      simpa [prs] using h
    · rw [if_neg e]
      simp
theorem sub_all0 (x : List Int) : sub x 0 x.length = x := by simp [sub]
/-- if both texts have a line in common, something is kept -/
theorem hKeep_some (x y : List Int) (h : 0 < lc x y) : 0 < prs (hKeep x y) := by
  have hne : pcs (hmid x y) x y (x.length + 1) 0 x.length 0 y.length ≠ [] := by
    intro he
    rw [pcs, ends] at he
    obtain ⟨h1, h2⟩ := List.append_eq_nil_iff.1 he
    obtain ⟨h2, h3⟩ := List.append_eq_nil_iff.1 h2
    have t1 : tf x y 0 x.length 0 y.length = 0 := by
      cases ht : tf x y 0 x.length 0 y.length with
      | zero => rfl
      | succ k => rw [ht, fp] at h1; cases h1
    rw [t1] at h2 h3
    simp only [Nat.add_zero] at h2 h3
    have t2 : tb x y 0 x.length 0 y.length = 0 := by
      cases ht : tb x y 0 x.length 0 y.length with
      | zero => rfl
      | succ k => rw [ht, bp] at h2; cases h2
    rw [t2] at h3
    simp only [Nat.sub_zero] at h3
    have hl1 := lc_left x y
    have hl2 := lc_right x y
    rw [if_pos ⟨by omega, by omega⟩, hmid, sub_all0, sub_all0] at h3
    obtain ⟨s, hs1, hs2, hs3⟩ := lc_ex x y
    obtain ⟨e, he⟩ : ∃ e, e ∈ s := List.length_pos_iff_exists_mem.1 (by omega)
    obtain ⟨i, hi, ei⟩ := List.getElem_of_mem (hs1.subset he)
    obtain ⟨j, hj, ej⟩ := List.getElem_of_mem (hs2.subset he)
    have hxy : x[i]? = y[j]? := by rw [List.getElem?_eq_getElem hi, List.getElem?_eq_getElem hj, ei, ej]
    cases hb : best x y with
    | none =>
      have h0 := hd_le x y i j
      have hr0 : 0 < rs x 0 y := by
        have := (rs_spec x y 0).2.1 y[j] (List.getElem_mem hj) (by rw [ej, ← ei]; exact List.count_pos_iff.2 (List.getElem_mem hi))
        omega
      have hR := rs_rst (x := x) (y := y) rfl hr0
      exact best_none hb _ (code_best hR).1
    | some r =>
      rw [hb] at h3
      rw [hsel] at h3
      have hin := (best_some hb).1.pos
      split at h3
      · exact lp_ne (by rw [sub_all0, sub_all0, prs_kp 0 x y (Int.le_refl _)]; exact h) _ _ h3
      · obtain ⟨h4, _⟩ := List.append_eq_nil_iff.1 h3
        cases hn : r.N with
        | zero => omega
        | succ k => rw [hn, fp] at h4; cases h4
  obtain ⟨p, hp⟩ := List.exists_mem_of_ne_nil _ hne
  have h1 := (hKeep_ok x y).at hp
  have h2 := (hKeep_ok x y).wn p hp
  unfold Wn at h2
  exact prs_pos h1 (by omega)
end Go.Proofs.YtnlbjknfahhfaaaGreatDoor

/- What speedy keeps: plain. -/
set_option maxRecDepth 20000
namespace Go.Proofs.YtnlbjknfahhfaaaGreatDoor

/-- the least place from nx on, fewer than far behind it, at which y has c -/
def gdn (c : Int) (y : List Int) (nx : Nat) (far : Int) : Option Nat := match (y.drop nx).findIdx? (fun z => z == c) with
  | some k => if (k : Int) < far then some (nx + k) else none
  | none => none
/-- what is kept by going through both once -/
def gdy (y : List Int) (far : Int) : Nat → List Int → List Int
  | _, [] => []
  | nx, c :: x => match gdn c y nx far with
    | some j => (j : Int) :: gdy y far (j + 1) x
    | none => -1 :: gdy y far nx x
theorem gdn_some {c : Int} {y : List Int} {nx j : Nat} {far : Int} (h : gdn c y nx far = some j) : nx ≤ j ∧ j < y.length ∧ ((j - nx : Nat) : Int) < far ∧ y[j]? = some c ∧ ∀ i, nx ≤ i → i < j → y[i]? ≠ some c := by
  unfold gdn at h
  split at h
  · rename_i k hk
    split at h
    · rename_i hf
      obtain rfl := Option.some.inj h
      obtain ⟨h1, h2, h3⟩ := List.findIdx?_eq_some_iff_getElem.1 hk
      rw [List.length_drop] at h1
      rw [List.getElem_drop] at h2
      refine ⟨by omega, by omega, by rw [show nx + k - nx = k by omega]; exact hf, ?_, fun i hi hj e => ?_⟩
      · rw [List.getElem?_eq_getElem (by omega)]
        rw [beq_iff_eq.1 h2]
      · have h4 := h3 (i - nx) (by omega)
        rw [List.getElem_drop] at h4
        rw [List.getElem?_eq_getElem (by omega)] at e
        have e2 : y[nx + (i - nx)]'(by omega) = c := by
          rw [← Option.some.inj e]
          congr 1
          omega
        rw [e2] at h4
        simp at h4
    · cases h
  · cases h
theorem gdn_none {c : Int} {y : List Int} {nx : Nat} {far : Int} (h : gdn c y nx far = none) (j : Nat) (h1 : nx ≤ j) (h2 : ((j - nx : Nat) : Int) < far) : y[j]? ≠ some c := by
  intro e
  unfold gdn at h
  obtain ⟨hj, ej⟩ := List.getElem?_eq_some_iff.1 e
  split at h
  · rename_i k hk
    split at h
    · cases h
    · rename_i hf
      obtain ⟨_, _, h3⟩ := List.findIdx?_eq_some_iff_getElem.1 hk
      have h4 := h3 (j - nx) (by omega)
      rw [List.getElem_drop] at h4
      have e2 : y[nx + (j - nx)]'(by omega) = c := by
        rw [← ej]
        congr 1
        omega
      rw [e2] at h4
      simp at h4
  · rename_i hk
    have h3 := List.findIdx?_eq_none_iff.1 hk c (by
      rw [List.mem_iff_getElem?]
      exact ⟨j - nx, by rw [List.getElem?_drop, show nx + (j - nx) = j by omega]; exact e⟩)
    simp at h3
theorem gdy_length (y : List Int) (far : Int) (x : List Int) : ∀ nx, (gdy y far nx x).length = x.length := by
  induction x with
  | nil => intro nx; rfl
  | cons c x ih =>
    intro nx
    rw [gdy]
    split
    · rw [List.length_cons, ih, List.length_cons]
    · rw [List.length_cons, ih, List.length_cons]
theorem gdy_vk (y : List Int) (far : Int) (x : List Int) : ∀ nx : Nat, Vk nx y.length (gdy y far nx x) := by
  induction x with
  | nil => intro nx; exact trivial
  | cons c x ih =>
    intro nx
    rw [gdy]
    split
    · rename_i j hj
      obtain ⟨h1, h2, _⟩ := gdn_some hj
      refine .inr ⟨by omega, by omega, by omega, ?_⟩
      have := ih (j + 1)
      rw [show ((j + 1 : Nat) : Int) = (j : Int) + 1 by omega] at this
      exact this
    · exact .inl ⟨rfl, ih nx⟩
theorem gdy_same (y : List Int) (far : Int) (x : List Int) : ∀ (nx i q : Nat), (gdy y far nx x)[i]? = some (q : Int) → x[i]? = y[q]? := by
  induction x with
  | nil => intro nx i q h; simp [gdy] at h
  | cons c x ih =>
    intro nx i q h
    rw [gdy] at h
    split at h
    · rename_i j hj
      cases i with
      | zero =>
        have e : (j : Int) = (q : Int) := by simpa using h
        obtain rfl : j = q := by omega
        rw [(gdn_some hj).2.2.2.1]
        rfl
      | succ i => exact ih (j + 1) i q (by simpa using h)
    · cases i with
      | zero => simp at h
      | succ i => exact ih nx i q (by simpa using h)

/-- what is kept of a middle, by the bound -/
def smid (B : Int) (x y : List Int) (_ : Nat → Nat → Nat → Nat → List Pr) (a b c d : Nat) : List Pr :=
  if ((b - a : Nat) : Int) * ((d - c : Nat) : Int) ≤ max 0 B then lp a c (kp 0 (sub x a b) (sub y c d)) else lp a c (gdy (sub y c d) 64 0 (sub x a b))
theorem gdy_ok (x y : List Int) (far : Int) (a b c d : Nat) (hab : a ≤ b) (hb : b ≤ x.length) (hcd : c ≤ d) (hd : d ≤ y.length) : Okp x y a b c d (lp a c (gdy (sub y c d) far 0 (sub x a b))) := by
  have h1 := lp_ok (x := x) (y := y) (gdy (sub y c d) far 0 (sub x a b)) a c 0 (d - c) (by
    have := gdy_vk (sub y c d) far (sub x a b) 0
    rw [sub_length y _ _ (by omega)] at this
    exact this) (fun i q hq => by
      have hl : i < (sub x a b).length := by
        have := (List.getElem?_eq_some_iff.1 hq).1
        rw [gdy_length] at this
        exact this
      have h2 := gdy_same (sub y c d) far (sub x a b) 0 i q hq
      have h3 := List.getElem?_eq_getElem hl
      rw [(sub_some h3).2, (sub_some (h2.symm.trans h3)).2])
  rw [gdy_length, sub_length x _ _ (by omega)] at h1
  exact h1.mono (Nat.le_refl _) (by omega) (by omega) (by omega)
theorem smid_ok (B : Int) (x y : List Int) : MOk (smid B x y) x y := by
  intro rec a b c d hab hb hcd hd _
  unfold smid
  split
  · exact least_ok x y a b c d (by omega) hb (by omega) hd
  · exact gdy_ok x y 64 a b c d (by omega) hb (by omega) hd
/-- what speedy keeps -/
def sKeep (B : Int) (x y : List Int) : List Int := wrk (List.replicate x.length (-1)) (pcs (smid B x y) x y (x.length + 1) 0 x.length 0 y.length)
theorem sKeep_ok (B : Int) (x y : List Int) : Okp x y 0 x.length 0 y.length (pcs (smid B x y) x y (x.length + 1) 0 x.length 0 y.length) := pcs_ok (smid_ok B x y) _ 0 x.length 0 y.length (Nat.zero_le _) (Nat.le_refl _) (Nat.zero_le _) (Nat.le_refl _)
theorem sKeep_kpt (B : Int) (x y : List Int) : Kpt x y (sKeep B x y) := (sKeep_ok B x y).kpt
theorem sKeep_front (B : Int) (x y : List Int) (i : Nat) (hi : i < tf x y 0 x.length 0 y.length) : (sKeep B x y)[i]? = some (i : Int) := by
  have hm : (⟨(i : Int), (i : Int)⟩ : Pr) ∈ pcs (smid B x y) x y (x.length + 1) 0 x.length 0 y.length := by
    rw [pcs, ends, List.mem_append]
    exact .inl (mem_fp.2 ⟨i, hi, by simp⟩)
  have := (sKeep_ok B x y).at hm
  simpa [sKeep] using this
theorem sKeep_nil (B : Int) (x y : List Int) (hx : x.length ≤ 4096) (hy : y.length ≤ 4096) : mkL (sKeep B x y) y.length = [] ↔ x = y := by
  constructor
  · exact nil_same (sKeep_kpt B x y).vk (sKeep_kpt B x y).len (sKeep_kpt B x y).eqs hx hy
  · rintro rfl
    have e : sKeep B x x = (List.range x.length).map fun (j : Nat) => (0 : Int) + (j : Int) := by
      apply List.ext_getElem?
      intro i
      by_cases hi : i < x.length
      · rw [sKeep_front B x x i (by rw [tf_all]; omega)]
        simp [hi]
      · rw [List.getElem?_eq_none (by rw [(sKeep_kpt B x x).len]; omega), List.getElem?_eq_none (by simp; omega)]
    rw [e]
    exact mk_id x.length
theorem sKeep_le (B : Int) (x y : List Int) : prs (sKeep B x y) ≤ lc x y := by
  have := hon_le (sKeep B x y) x y 0 (sKeep_kpt B x y).vk (sKeep_kpt B x y).len (sKeep_kpt B x y).eqs
  simpa using this

theorem lc_pre (p u v : List Int) : lc (p ++ u) (p ++ v) = p.length + lc u v := by
  induction p with
  | nil => simp
  | cons c p ih => rw [List.cons_append, List.cons_append, lc_ahead, ih, List.length_cons]; omega
theorem lc_suf (u v s : List Int) : lc (u ++ s) (v ++ s) = lc u v + s.length := by
  rw [← lc_rev, List.reverse_append, List.reverse_append, lc_pre, lc_rev, List.length_reverse]
  omega
/-- both ends go off -/
theorem lc_mid (x y : List Int) (k m : Nat) (hx : k + m ≤ x.length) (hy : k + m ≤ y.length) (h1 : ∀ i, i < k → x[i]? = y[i]?) (h2 : ∀ i, i < m → x[x.length - (i + 1)]? = y[y.length - (i + 1)]?) : lc x y = k + lc (sub x k (x.length - m)) (sub y k (y.length - m)) + m := by
  have e (z : List Int) (hz : k + m ≤ z.length) : z = z.take k ++ (sub z k (z.length - m) ++ z.drop (z.length - m)) := by
    have e1 : z.drop k = sub z k (z.length - m) ++ z.drop (z.length - m) := by
      unfold sub
      have := (List.take_append_drop (z.length - m - k) (z.drop k)).symm
      rw [List.drop_drop, show k + (z.length - m - k) = z.length - m by omega] at this
      exact this
    rw [← e1, List.take_append_drop]
  have ep : x.take k = y.take k := by
    apply List.ext_getElem?
    intro i
    by_cases hi : i < k
    · rw [List.getElem?_take_of_lt hi, List.getElem?_take_of_lt hi, h1 i hi]
    · rw [List.getElem?_eq_none (by simp; omega), List.getElem?_eq_none (by simp; omega)]
  have es : x.drop (x.length - m) = y.drop (y.length - m) := by
    apply List.ext_getElem?
    intro i
    by_cases hi : i < m
    · have := h2 (m - 1 - i) (by omega)
      rw [List.getElem?_drop, List.getElem?_drop]
      rw [show x.length - m + i = x.length - (m - 1 - i + 1) by omega, show y.length - m + i = y.length - (m - 1 - i + 1) by omega]
      exact this
    · rw [List.getElem?_eq_none (by simp; omega), List.getElem?_eq_none (by simp; omega)]
  have hl : (y.drop (y.length - m)).length = m := by simp; omega
  have hp : (y.take k).length = k := by simp; omega
  calc lc x y = lc (x.take k ++ (sub x k (x.length - m) ++ x.drop (x.length - m))) (y.take k ++ (sub y k (y.length - m) ++ y.drop (y.length - m))) := by rw [← e x hx, ← e y hy]
    _ = _ := by rw [ep, es, lc_pre, lc_suf, hl, hp]; omega

theorem prs_mono {A B : List Int} (h : ∀ (i : Nat) (z : Int), A[i]? = some z → 0 ≤ z → ∃ z', B[i]? = some z' ∧ 0 ≤ z') : prs A ≤ prs B := by
  induction A generalizing B with
  | nil => exact Nat.zero_le _
  | cons a A ih =>
    cases B with
    | nil =>
      by_cases ha : 0 ≤ a
      · obtain ⟨_, h1, _⟩ := h 0 a rfl ha
        simp at h1
      · have := ih (B := []) (fun i z hi hz => by
          obtain ⟨z', h1, _⟩ := h (i + 1) z (by simpa using hi) hz
          simp at h1)
        have e : prs (a :: A) = prs A := by simp [prs, ha]
        rw [e]
        exact this
    | cons b B =>
      have h2 := ih (B := B) (fun i z hi hz => by
        obtain ⟨z', h1, h3⟩ := h (i + 1) z (by simpa using hi) hz
        exact ⟨z', by simpa using h1, h3⟩)
      by_cases ha : 0 ≤ a
      · obtain ⟨z', h1, h3⟩ := h 0 a rfl ha
        have hb : 0 ≤ b := by
          have e : b = z' := by simpa using h1
          rw [e]
          exact h3
        have e1 : prs (a :: A) = prs A + 1 := by simp [prs, ha]
        have e2 : prs (b :: B) = prs B + 1 := by simp [prs, hb]
        omega
      · have e1 : prs (a :: A) = prs A := by simp [prs, ha]
        have e2 : prs B ≤ prs (b :: B) := by
          by_cases hb : 0 ≤ b <;> simp [prs, hb]
        omega
theorem mem_lp {K : List Int} : ∀ {i : Nat} {z : Int} {a c : Int}, K[i]? = some z → z ≠ -1 → (⟨a + i, c + z⟩ : Pr) ∈ lp a c K := by
  induction K with
  | nil => intro i z a c h; simp at h
  | cons k K ih =>
    intro i z a c h hz
    rw [lp, List.mem_append]
    cases i with
    | zero =>
      have e : k = z := by simpa using h
      subst e
      left
      rw [if_neg hz]
      simp
    | succ i =>
      right
      have := ih (i := i) (z := z) (a := a + 1) (c := c) (by simpa using h) hz
      rw [show a + 1 + (i : Int) = a + ((i + 1 : Nat) : Int) by omega] at this
      exact this
theorem mem_bp : ∀ {k b d i : Nat}, i < k → (⟨(b - (i + 1) : Nat), (d - (i + 1) : Nat)⟩ : Pr) ∈ bp b d k := by
  intro k
  induction k with
  | zero => intro b d i h; omega
  | succ k ih =>
    intro b d i h
    rw [bp]
    cases i with
    | zero => exact List.mem_cons_self
    | succ i =>
      refine List.mem_cons_of_mem _ ?_
      have := ih (b := b - 1) (d := d - 1) (i := i) (by omega)
      rw [show b - 1 - (i + 1) = b - (i + 1 + 1) by omega, show d - 1 - (i + 1) = d - (i + 1 + 1) by omega] at this
      exact this
theorem prs_append (A B : List Int) : prs (A ++ B) = prs A + prs B := by simp [prs]
theorem prs_zeros (k : Nat) : prs (List.replicate k 0) = k := by
  simp [prs]
/-- where the bound is great enough no honest script keeps more -/
theorem sKeep_most (B : Int) (x y : List Int) (hB : (x.length : Int) * (y.length : Int) ≤ B) : prs (sKeep B x y) = lc x y := by
  refine Nat.le_antisymm (sKeep_le B x y) ?_
  have hok := sKeep_ok B x y
  have hat := fun {p : Pr} (hp : p ∈ pcs (smid B x y) x y (x.length + 1) 0 x.length 0 y.length) => hok.at hp
  have hkl := (sKeep_kpt B x y).len
  have hk := tf_le x y 0 x.length 0 y.length
  have hks := tf_same x y 0 x.length 0 y.length
  have hm := tb_le x y (0 + tf x y 0 x.length 0 y.length) x.length (0 + tf x y 0 x.length 0 y.length) y.length
  have hms := tb_same x y (0 + tf x y 0 x.length 0 y.length) x.length (0 + tf x y 0 x.length 0 y.length) y.length
  rw [pcs, ends] at hat
  unfold sKeep at hkl ⊢
  rw [pcs, ends] at hkl ⊢
  generalize tf x y 0 x.length 0 y.length = k at *
  simp only [Nat.zero_add] at *
  generalize tb x y k x.length k y.length = m at *
  have hmid := lc_mid x y k m (by omega) (by omega) (fun i hi => by have := hks i hi; simpa using this) hms
  generalize hl : fp 0 0 k ++ (bp x.length y.length m ++ if k < x.length - m ∧ k < y.length - m then smid B x y (pcs (smid B x y) x y x.length) k (x.length - m) k (y.length - m) else []) = l at hat hkl ⊢
  generalize wrk (List.replicate x.length (-1)) l = K at hat hkl ⊢
  have hA : prs (List.replicate k 0 ++ (kp 0 (sub x k (x.length - m)) (sub y k (y.length - m)) ++ List.replicate m 0)) = lc x y := by
    rw [prs_append, prs_append, prs_zeros, prs_zeros, prs_kp 0 _ _ (Int.le_refl _), hmid]
    omega
  rw [← hA]
  have hsl : (sub x k (x.length - m)).length = x.length - m - k := sub_length x _ _ (by omega)
  refine prs_mono fun i z hz h0 => ?_
  by_cases h1 : i < k
  · have hp : (⟨((0 + i : Nat) : Int), ((0 + i : Nat) : Int)⟩ : Pr) ∈ l := by rw [← hl]; exact List.mem_append_left _ (mem_fp.2 ⟨i, h1, rfl⟩)
    have := hat hp
    exact ⟨_, by simpa using this, by simp⟩
  · rw [List.getElem?_append_right (by simp; omega), List.length_replicate] at hz
    by_cases h2 : i < x.length - m
    · rw [List.getElem?_append_left (by rw [kp_length, hsl]; omega)] at hz
      have h3 : k < y.length - m := by
        obtain ⟨_, c, _, h4⟩ := kp_same 0 _ _ (Int.le_refl _) (i - k) z hz h0
        have := (List.getElem?_eq_some_iff.1 h4).1
        rw [sub_length y _ _ (by omega)] at this
        omega
      have hb : (((x.length - m - k : Nat) : Int)) * (((y.length - m - k : Nat) : Int)) ≤ max 0 B := by
        have h5 : (((x.length - m - k : Nat) : Int)) * (((y.length - m - k : Nat) : Int)) ≤ (x.length : Int) * (y.length : Int) := Int.mul_le_mul (by omega) (by omega) (by omega) (by omega)
        omega
      have hp : (⟨(k : Int) + ((i - k : Nat) : Int), (k : Int) + z⟩ : Pr) ∈ l := by
        rw [← hl]
        refine List.mem_append_right _ (List.mem_append_right _ ?_)
        rw [if_pos ⟨by omega, h3⟩, smid, if_pos hb]
        exact mem_lp hz (by omega)
      have := hat hp
      rw [show ((k : Int) + ((i - k : Nat) : Int)).toNat = i by omega] at this
      exact ⟨_, this, by show (0 : Int) ≤ _; dsimp only; omega⟩
    · have hi : i < x.length := by
        have := (List.getElem?_eq_some_iff.1 hz).1
        rw [List.length_append, kp_length, hsl, List.length_replicate] at this
        omega
      have hp : (⟨((x.length - ((x.length - 1 - i) + 1) : Nat) : Int), ((y.length - ((x.length - 1 - i) + 1) : Nat) : Int)⟩ : Pr) ∈ l := by
        rw [← hl]
        exact List.mem_append_right _ (List.mem_append_left _ (mem_bp (by omega)))
      have := hat hp
      rw [show (((x.length - ((x.length - 1 - i) + 1) : Nat) : Int)).toNat = i by omega] at this
      exact ⟨_, this, by show (0 : Int) ≤ _; dsimp only; omega⟩
end Go.Proofs.YtnlbjknfahhfaaaGreatDoor

/- The reference's Length and Diff, walked. -/
set_option maxRecDepth 20000
namespace Go.Proofs.YtnlbjknfahhfaaaGreatDoor
open Go.RowKit

theorem betw_len (a b : Int) (l : List Rn) : (betw a b l).length ≤ l.length := by
  induction l generalizing a b with
  | nil => simp [betw]
  | cons r l ih =>
    rw [betw]
    have := ih (r.a + r.n) (r.b + r.n)
    split <;> simp <;> omega

end Go.Proofs.YtnlbjknfahhfaaaGreatDoor

/- How often each class stands: count and rarest, walked. -/
set_option maxRecDepth 20000
namespace Go.Proofs.YtnlbjknfahhfaaaGreatDoor
open Go.RowKit Go.Maps

/-- a map that tells how often each class stands -/
structure Cnt {H : Type} (D : DataW H) (t : List Int) : Prop where
  tidy : Tidy D
  at_ : ∀ c, D.atKey (.int .i64 c) (.lit (.int .i64 0)) = .lit (.int .i64 (t.count c : Nat))
theorem Cnt.nil {H : Type} : Cnt (H := H) (.map []) [] := ⟨tidy_empty, fun _ => by rw [atKey_of_not_has rfl]; rfl⟩
theorem Cnt.put {H : Type} {D : DataW H} {t : List Int} (h : Cnt D t) (a : Int) : Cnt (D.put (.int .i64 a) (.lit (.int .i64 ((t.count a : Nat) + 1)))) (t ++ [a]) := by
  have hk : WideAt.IsKeyLit (.int .i64 a) := trivial
  have hne : ∀ {g : Int}, a ≠ g → (Lit.int .i64 g) ≠ .int .i64 a := fun hg e => hg (by cases e; rfl)
  refine ⟨h.tidy.put hk _, fun c => ?_⟩
  by_cases e : a = c
  · subst e
    rw [atKey_put_same h.tidy.isMap hk, List.count_append, List.count_singleton_self]
    rfl
  · rw [atKey_put_other (hne e), h.at_, List.count_append]
    have : [a].count c = 0 := by rw [List.count_eq_zero]; simp; exact fun q => e q.symm
    rw [this, Nat.add_zero]
theorem hKeyed : Keyed Tryz.prog 3 := int_keyed Tryz.underlying3
theorem hZero (w : World) : (zeroValue 3).run Tryz.prog w = .ok (.int .i64 0) w := by kernel_rfl
theorem hKey {c : Int} (hc : w64 c) : keyOf Tryz.prog 3 (.int .i64 c) = some (.int .i64 c) := keyOf_int_mk Tryz.underlying3 (WalkArith.wf_i64 hc)
/-- such a map in memory -/
def Mc (t : List Int) (B : Nat) (w : World) : Prop := ∃ D : DataW Unit, w.ownsMap Tryz.prog 3 (plainElem Tryz.prog 3) B t.length D ∧ Cnt D t
section
variable {t : List Int} {B : Nat} {w w' : World}
theorem Mc.lt (h : Mc t B w) : B < w.heap.size := by obtain ⟨D, hm, _⟩ := h; exact hm.lt
theorem Mc.keep (h : Mc t B w) (hb : w'.heap[B]? = w.heap[B]?) : Mc t B w' := by
  obtain ⟨D, ⟨es, clock, hm, r⟩, hd⟩ := h
  exact ⟨D, ⟨es, clock, hb.trans hm, r⟩, hd⟩
theorem Mc.low (h : Mc t B w) (hb : Below w.heap.size w w') : Mc t B w' := h.keep (hb.block B h.lt)
theorem Mc.look (h : Mc t B w) {c : Int} (hc : w64 c) : (Instr.lookup 218 (.map (some B)) (.int .i64 c) false).run Tryz.prog w = .ok (.int .i64 (t.count c : Nat)) w := by
  obtain ⟨D, hm, hd⟩ := h
  obtain ⟨d, hr, e, _⟩ := hm.lookup_int hKeyed Tryz.underlying218 Tryz.underlying3 (hZero w) (hKey hc)
  rw [hd.at_] at e
  cases e
  exact hr
theorem Mc.store (h : Mc t B w) {a : Int} (ha : w64 a) (hl : t.length ≤ 1099511627776) (z : Int) (hz : z = (t.count a : Nat) + 1) :
    ∃ w', (Instr.mapUpdate 218 (.map (some B)) (.int .i64 a) (.int .i64 z)).run Tryz.prog w = .ok () w' ∧ Mc (t ++ [a]) B w' ∧ w.grownBy w' (some B) := by
  obtain ⟨D, hm, hd⟩ := h
  have hcl : t.count a ≤ t.length := List.count_le_length
  obtain ⟨w', hr, ho, ht⟩ := hm.store (val := .int .i64 z) hKeyed Tryz.underlying218 (by unfold maxLen; omega) (hKey ha) (plainElem_int Tryz.underlying3 (WalkArith.wf_i64 (by omega)))
  exact ⟨w', hr, ⟨_, by simpa using ho, by subst hz; exact hd.put a⟩, ht.grown⟩
end

set_option maxRecDepth 10000 in
set_option maxHeartbeats 1000000 in
theorem count_f (x : List Int) (v : Value) (w : World) (hx : HI w v x) (hxl : x.length ≤ 1048576) (hw : ∀ c ∈ x, w64 c) :
    Calls Tryz.prog 143 #[v] w fun e w' => ∃ B, e = .returned (.map (some B)) ∧ Mc x B w' ∧ w.heap.size ≤ B ∧ Below w.heap.size w w' := by
  obtain ⟨xo, xc, rfl⟩ := Holds.form hx
  have hmm := @run_makeMap Tryz.prog
  have HW : Hid (∀ c ∈ x, w64 c) := hw
  clear hw
  go_enter Tryz.func143, Tryz.ntmps143
  go_wp2
  go_loopw [9] (fun iv wr => ∃ (i : Nat), i ≤ x.length ∧ iv = .int .i64 i ∧ Mc (x.take i) w.heap.size wr ∧ Below w.heap.size w wr) (fun iv _ => x.length - (intOf iv).toNat)
  case atStart => exact ⟨0, Nat.zero_le _, rfl, ⟨.map [], World.ownsMap_made w _ _ _, Cnt.nil⟩, (Below.refl _ w).alloc (Nat.le_refl _) _⟩
  case round =>
    clear hmm
    obtain ⟨i, hi, rfl, hM, hB⟩ := hrel
    have hs := hB.size
    by_cases hil : i < x.length
    · obtain ⟨b, off, rfl, _, hc⟩ := HI.at (HI.keep hx hB (Nat.le_refl _)) (by omega)
      have c0 := hc i hil
      obtain ⟨z, hz⟩ : ∃ z, x[i] = z := ⟨_, rfl⟩
      rw [hz] at c0
      have hzw : w64 z := by rw [← hz]; exact HW.out _ (List.getElem_mem hil)
      have htl : (x.take i).length = i := by simp; omega
      have HT : Hid (x.take (i + 1) = x.take i ++ [z]) := (by show _ = _; rw [List.take_succ_eq_append_getElem hil, hz])
      have hlk := hM.look hzw
      obtain ⟨w2, hst, hM2, hg2⟩ := hM.store hzw (by omega) _ rfl
      have hcl : (x.take i).count z ≤ (x.take i).length := List.count_le_length
      have hB2 : Below w.heap.size w w2 := hB.grown hg2 hs (fun j hj => by cases hj; exact Nat.le_refl _)
      obtain ⟨q, hq⟩ : ∃ q, (x.take i).count z = q := ⟨_, rfl⟩
      rw [hq] at hlk hst hcl
      clear hc hz hq
      have i1 : 0 ≤ (i : Int) := by omega
      have i2 : (i : Int) < (x.length : Int) := by omega
      rw [htl] at hcl
      go_wp2
      go_roundw
      case rel => exact ⟨i + 1, by omega, by go_num, by rw [HT.out]; exact hM2, hB2⟩
      case measure => simp [intOf]; omega
    · obtain rfl : i = x.length := by omega
      rw [List.take_length] at hM
      go_wp2
      go_ret
      exact ⟨_, rfl, hM, Nat.le_refl _, hB⟩

theorem rs_le (x : List Int) (y : List Int) : ∀ l : Nat, l ≤ x.length → rs x l y ≤ x.length := by
  induction y with
  | nil => intro l h; exact h
  | cons c y ih =>
    intro l h
    rw [rs]
    refine ih _ ?_
    split
    · exact List.count_le_length
    · exact h
set_option maxRecDepth 10000 in
set_option maxHeartbeats 1000000 in
theorem rarest_f (x y : List Int) (B : Nat) (v : Value) (w : World) (hM : Mc x B w) (hy : HI w v y) (_ : x.length ≤ 1048576) (hyl : y.length ≤ 1048576) (hw : ∀ c ∈ y, w64 c) (r : Nat) (hr : Hid (rs x 0 y = r)) :
    Calls Tryz.prog 144 #[.map (some B), v] w fun e w' => e = .returned (.int .i64 (r : Int)) ∧ w = w' := by
  obtain ⟨yo, yc, rfl⟩ := Holds.form hy
  have HW : Hid (∀ c ∈ y, w64 c) := hw
  clear hw
  go_enter Tryz.func144, Tryz.ntmps144
  go_wp2
  go_loopw [5, 11] (fun lv iv wr => ∃ (i l : Nat), i ≤ y.length ∧ l ≤ x.length ∧ lv = .int .i64 l ∧ iv = .int .i64 i ∧ wr = w ∧ Hid (rs x l (y.drop i) = r)) (fun _ iv _ => y.length - (intOf iv).toNat)
  case atStart => exact ⟨0, 0, Nat.zero_le _, Nat.zero_le _, rfl, rfl, rfl, hr⟩
  case round =>
    obtain ⟨i, l, hi, hl, rfl, rfl, rfl, HR⟩ := hrel
    by_cases hil : i < y.length
    · obtain ⟨b, off, rfl, _, hc⟩ := HI.at hy (by omega)
      have c0 := hc i hil
      obtain ⟨z, hz⟩ : ∃ z, y[i] = z := ⟨_, rfl⟩
      rw [hz] at c0
      have hzw : w64 z := by rw [← hz]; exact HW.out _ (List.getElem_mem hil)
      have hlk := hM.look hzw
      have hcl : x.count z ≤ x.length := List.count_le_length
      have HR2 : Hid (rs x (if 0 < x.count z ∧ (l = 0 ∨ x.count z < l) then x.count z else l) (y.drop (i + 1)) = r) := (by
        show _ = _
        have := HR.out
        rw [List.drop_eq_getElem_cons hil, rs, hz] at this
        exact this)
      obtain ⟨q, hq⟩ : ∃ q, x.count z = q := ⟨_, rfl⟩
      rw [hq] at hlk hcl HR2
      clear hc hz hq HR
      have i1 : 0 ≤ (i : Int) := by omega
      have i2 : (i : Int) < (y.length : Int) := by omega
      by_cases h0 : 0 < q
      · have e1 : decide ((0 : Int) < (q : Int)) = true := decide_eq_true (by omega)
        by_cases h1 : l = 0
        · have e2 : ((l : Int) == 0) = true := beq_iff_eq.2 (by omega)
          have HR3 : Hid (rs x q (y.drop (i + 1)) = r) := (by
            show _ = _
            have := HR2.out
            rw [if_pos ⟨h0, .inl h1⟩] at this
            exact this)
          clear HR2 h1
          go_wp2
          go_roundw
          case rel => exact ⟨i + 1, q, by omega, hcl, rfl, by go_num, trivial, HR3⟩
          case measure => simp [intOf]; omega
        · have e2 : ((l : Int) == 0) = false := beq_eq_false_iff_ne.2 (by omega)
          by_cases h2 : q < l
          · have e3 : decide ((q : Int) < (l : Int)) = true := decide_eq_true (by omega)
            have HR3 : Hid (rs x q (y.drop (i + 1)) = r) := (by
              show _ = _
              have := HR2.out
              rw [if_pos ⟨h0, .inr h2⟩] at this
              exact this)
            clear HR2 h1
            go_wp2
            go_roundw
            case rel => exact ⟨i + 1, q, by omega, hcl, rfl, by go_num, trivial, HR3⟩
            case measure => simp [intOf]; omega
          · have e3 : decide ((q : Int) < (l : Int)) = false := decide_eq_false (by omega)
            have e4 : decide (q < l) = false := decide_eq_false h2
            have HR3 : Hid (rs x l (y.drop (i + 1)) = r) := (by
              show _ = _
              have := HR2.out
              rw [if_neg (by omega)] at this
              exact this)
            clear HR2 h1
            go_wp2
            go_roundw
            case rel => exact ⟨i + 1, l, by omega, hl, rfl, by go_num, trivial, HR3⟩
            case measure => simp [intOf]; omega
      · have e1 : decide ((0 : Int) < (q : Int)) = false := decide_eq_false (by omega)
        have e4 : decide (0 < q) = false := decide_eq_false h0
        have HR3 : Hid (rs x l (y.drop (i + 1)) = r) := (by
          show _ = _
          have := HR2.out
          rw [if_neg (by omega)] at this
          exact this)
        clear HR2
        go_wp2
        go_roundw
        case rel => exact ⟨i + 1, l, by omega, hl, rfl, by go_num, trivial, HR3⟩
        case measure => simp [intOf]; omega
    · obtain rfl : i = y.length := by omega
      have e : l = r := by
        have := HR.out
        rw [List.drop_of_length_le (Nat.le_refl _)] at this
        exact this
      subst e
      go_wp2
      go_ret
      exact ⟨rfl, rfl⟩
end Go.Proofs.YtnlbjknfahhfaaaGreatDoor

/- Where the rarest classes stand: places and partners, walked. -/
set_option maxRecDepth 20000
namespace Go.Proofs.YtnlbjknfahhfaaaGreatDoor
open Go.RowKit Go.Maps

/-- where a class stands in t, if it stands R times in x -/
def pl (x : List Int) (R : Nat) (t : List Int) (c : Int) : List Nat := if x.count c = R then (List.range t.length).filter (fun j => decide (t[j]? = some c)) else []
theorem pl_snoc (x : List Int) (R : Nat) (t : List Int) (a c : Int) : pl x R (t ++ [a]) c = if x.count a = R ∧ a = c then pl x R t c ++ [t.length] else pl x R t c := by
  unfold pl
  have hf : ((List.range t.length).filter fun j => decide ((t ++ [a])[j]? = some c)) = (List.range t.length).filter fun j => decide (t[j]? = some c) := by
    apply List.filter_congr
    intro j hj
    rw [List.mem_range] at hj
    rw [List.getElem?_append_left hj]
  by_cases h : x.count c = R
  · rw [if_pos h, if_pos h, List.length_append, List.length_singleton, List.range_succ, List.filter_append, hf]
    by_cases e : a = c
    · subst e
      rw [if_pos ⟨h, rfl⟩]
      congr 1
      simp
    · rw [if_neg (fun q => e q.2)]
      have : ([t.length].filter fun j => decide ((t ++ [a])[j]? = some c)) = [] := by simp [e]
      rw [this, List.append_nil]
  · rw [if_neg h, if_neg h]
    by_cases e : a = c
    · subst e
      rw [if_neg (fun q => h q.1)]
    · rw [if_neg (fun q => e q.2)]
theorem pl_nil (x : List Int) (R : Nat) (c : Int) : pl x R [] c = [] := by simp [pl]
theorem pl_le (x : List Int) (R : Nat) (t : List Int) (c : Int) : (pl x R t c).length ≤ t.length := by
  unfold pl
  split
  · exact Nat.le_trans (List.length_filter_le _ _) (by simp)
  · simp
theorem pl_pj (x y : List Int) (R i : Nat) (hi : i < x.length) : pl x R y x[i] = pj x y R i := by
  unfold pl pj
  rw [cnt_at (List.getElem?_eq_getElem hi), List.getElem?_eq_getElem hi]
/-- a list of places as numbers -/
def nI (l : List Nat) : List Int := l.map fun (n : Nat) => (n : Int)
theorem nI_append (a b : List Nat) : nI (a ++ b) = nI a ++ nI b := by simp [nI]
/-- a map that tells where the classes stand -/
structure Gd (D : DataW Unit) (f : Int → List Nat) : Prop where
  tidy : IsMap D
  at_ : ∀ c, D.atKey (.int .i64 c) .nil = if f c = [] then .nil else .slice (ChangeShapes.lits .i64 (nI (f c))) []
theorem lits_inj {a b : List Int} (h : ChangeShapes.lits (H := Unit) .i64 a = ChangeShapes.lits .i64 b) : a = b := by
  unfold ChangeShapes.lits at h
  exact (List.map_inj_right (fun u v huv => by cases huv; rfl)).1 h
theorem Gd.zs {D : DataW Unit} {f : Int → List Nat} (h : Gd D f) {w : World} {base : Nat} {e : TypeId} {v : Value} {zs : List Int} {c : Int} (ho : w.ownsInts base e .i64 v zs) (ha : D.atKey (.int .i64 c) .nil = rowDatum .i64 v zs) : zs = nI (f c) := by
  rw [h.at_] at ha
  rcases ho.datum (H := Unit) with ⟨h1, h2⟩ | h1
  · rw [h1] at ha
    by_cases e : f c = []
    · rw [h2, e]; rfl
    · rw [if_neg e] at ha; cases ha
  · rw [h1] at ha
    by_cases e : f c = []
    · rw [if_pos e] at ha; cases ha
    · rw [if_neg e] at ha
      injection ha with ha
      exact (lits_inj ha).symm
theorem Gd.nil (x : List Int) (R : Nat) : Gd (.map []) (pl x R []) := ⟨isMap_empty, fun c => by rw [atKey_of_not_has rfl, if_pos (pl_nil x R c)]⟩
theorem Gd.put {D : DataW Unit} {x : List Int} {R : Nat} {t : List Int} (h : Gd D (pl x R t)) {a : Int} (ha : x.count a = R) : Gd (D.put (.int .i64 a) (.slice (ChangeShapes.lits .i64 (nI (pl x R t a) ++ [(t.length : Int)])) [])) (pl x R (t ++ [a])) := by
  have hk : WideAt.IsKeyLit (.int .i64 a) := trivial
  have hne : ∀ {g : Int}, a ≠ g → (Lit.int .i64 g) ≠ .int .i64 a := fun hg e => hg (by cases e; rfl)
  refine ⟨h.tidy.put _ _, fun c => ?_⟩
  by_cases e : a = c
  · subst e
    have e2 : pl x R (t ++ [a]) a = pl x R t a ++ [t.length] := by rw [pl_snoc, if_pos ⟨ha, rfl⟩]
    rw [atKey_put_same h.tidy hk, e2, if_neg (by simp), nI_append]
    rfl
  · have e2 : pl x R (t ++ [a]) c = pl x R t c := by rw [pl_snoc, if_neg (fun q => e q.2)]
    rw [atKey_put_other (hne e), h.at_, e2]
theorem Gd.skip {D : DataW Unit} {x : List Int} {R : Nat} {t : List Int} (h : Gd D (pl x R t)) {a : Int} (ha : x.count a ≠ R) : Gd D (pl x R (t ++ [a])) := by
  refine ⟨h.tidy, fun c => ?_⟩
  have e2 : pl x R (t ++ [a]) c = pl x R t c := by rw [pl_snoc, if_neg (fun q => ha q.1)]
  rw [e2]
  exact h.at_ c
/-- such a map in memory, with rows of its own -/
def Gm (x : List Int) (R : Nat) (t : List Int) (b base : Nat) (w : World) : Prop := ∃ m D, m ≤ t.length ∧ w.ownsGroups Tryz.prog 3 base 3 .i64 b m D ∧ Gd D (pl x R t)
theorem zeroIs (w : World) : (zeroValue 55).run Tryz.prog w = .ok (.slice none 0 0) w := by kernel_rfl

set_option maxRecDepth 10000 in
set_option maxHeartbeats 2000000 in
theorem hplaces_f (x y : List Int) (R Bc : Nat) (v : Value) (w : World) (hM : Mc x Bc w) (hy : HI w v y) (hyl : y.length ≤ 1048576) (hw : ∀ c ∈ y, w64 c) :
    Calls Tryz.prog 146 #[v, .map (some Bc), .int .i64 (R : Int)] w fun e w' => e = .returned (.map (some w.heap.size)) ∧ Gm x R y w.heap.size (w.heap.size + 1) w' ∧ Below w.heap.size w w' := by
  obtain ⟨yo, yc, rfl⟩ := Holds.form hy
  have hmm := @run_makeMap Tryz.prog
  obtain ⟨i0, hi0, hz0, hz1, hz2⟩ := info_parts infoInt
  have HW : Hid (∀ c ∈ y, w64 c) := hw
  have hBc := hM.lt
  clear hw
  go_enter Tryz.func146, Tryz.ntmps146
  go_wp2
  go_loopw [13] (fun iv wr => ∃ (i : Nat), i ≤ y.length ∧ iv = .int .i64 i ∧ Gm x R (y.take i) w.heap.size (w.heap.size + 1) wr ∧ Below w.heap.size w wr ∧ w.heap.size + 1 ≤ wr.heap.size) (fun iv _ => y.length - (intOf iv).toNat)
  case atStart => exact ⟨0, Nat.zero_le _, rfl, ⟨0, _, Nat.zero_le _, World.ownsGroups_made _ _ _ _ _, Gd.nil x R⟩, (Below.refl _ w).alloc (Nat.le_refl _) _, by simp⟩
  case round =>
    clear hmm
    obtain ⟨i, hi, rfl, hG, hB, hws⟩ := hrel
    have hs := hB.size
    by_cases hil : i < y.length
    · obtain ⟨b, off, rfl, _, hc⟩ := HI.at (HI.keep hy hB (Nat.le_refl _)) (by omega)
      have c0 := hc i hil
      obtain ⟨z, hz⟩ : ∃ z, y[i] = z := ⟨_, rfl⟩
      rw [hz] at c0
      have hzw : w64 z := by rw [← hz]; exact HW.out _ (List.getElem_mem hil)
      have htl : (y.take i).length = i := by simp; omega
      have HT : Hid (y.take (i + 1) = y.take i ++ [z]) := (by show _ = _; rw [List.take_succ_eq_append_getElem hil, hz])
      have hlk := (hM.keep (hB.block Bc hBc)).look hzw
      obtain ⟨q, hq⟩ : ∃ q, x.count z = q := ⟨_, rfl⟩
      have HQ : Hid (x.count z = q) := hq
      rw [hq] at hlk
      clear hc hz hq
      have i1 : 0 ≤ (i : Int) := by omega
      have i2 : (i : Int) < (y.length : Int) := by omega
      obtain ⟨m, D, hm, hown, hgd⟩ := hG
      rw [htl] at hm
      by_cases hqR : q = R
      · subst hqR
        obtain ⟨v, zs, hrun, hat, hoi, hzl, hback⟩ := hown.at hKeyed Tryz.underlying250 (zeroIs wr) (by unfold maxLen; omega) (hKey hzw)
        have HZS : Hid (zs = nI (pl x q (y.take i) z)) := hgd.zs hoi hat
        have HGD : Hid (Gd D (pl x q (y.take i))) := hgd
        clear hgd hat
        go_wp2_with (at_builtin; refine wpList_append_own_at _ (by kernel_rfl) (.tmp 27) (.tmp 29) 55 rfl (w.heap.size + 1) 3 i0 (.int .i64 0) 1 8 Tryz.underlying55 hi0 hz0 hz1 hz2 rfl (by decide) v zs.length (zs.map (Value.int .i64)) (by kernel_rfl) (hoi.1.alloc _) ⟨wr.heap.size, 0, none⟩ 1 1 [.int .i64 (i : Int)] (by kernel_rfl) rfl (cell_one_new _ _ _) (by simp [Value.oneCell']) (by unfold maxLen; omega) (by omega) (by simp; omega) ?_)
        intro v' w1 hown' hgrow hnil hloc
        have hall := (World.grownBy_alloc wr _ _).trans hgrow
        have hoi' := hoi.appended hown' (WalkArith.wf_i64 (by omega))
        obtain ⟨w2, hst, hown2, hgrow2⟩ := hback w1 v' (zs ++ [(i : Int)]) hall hoi' (by simp; omega) (hloc.imp id (fun h => ⟨_, h, by simp⟩))
        have hB2 := hB.groups hoi hall hgrow2 hs (Nat.le_succ _) (Nat.le_refl _)
        have hG2 : Gm x q (y.take (i + 1)) w.heap.size (w.heap.size + 1) w2 := by
          refine ⟨m + 1, _, ?_, hown2, ?_⟩
          · rw [List.length_take]; omega
          · rw [hoi'.datum_pos (by simp), HT.out, HZS.out]
            have := HGD.out.put (a := z) HQ.out
            rw [htl] at this
            exact this
        have hs2 := Nat.le_trans hall.size hgrow2.size
        clear hown' hgrow hnil hloc hoi' hown2 hall hback hrun hoi hown hgrow2
        go_wp2
        go_roundw
        case rel => exact ⟨i + 1, by omega, by go_num, hG2, hB2, by omega⟩
        case measure => simp [intOf]; omega
      · have e1 : ((q : Int) == (R : Int)) = false := beq_eq_false_iff_ne.2 (by omega)
        have hG2 : Gm x R (y.take (i + 1)) w.heap.size (w.heap.size + 1) wr := by
          refine ⟨m, D, ?_, hown, ?_⟩
          · rw [List.length_take]; omega
          · rw [HT.out]
            exact hgd.skip (by rw [HQ.out]; exact hqR)
        clear hown hgd hqR
        go_wp2
        go_roundw
        case rel => exact ⟨i + 1, by omega, by go_num, hG2, hB, hws⟩
        case measure => simp [intOf]; omega
    · obtain rfl : i = y.length := by omega
      rw [List.take_length] at hG
      go_wp2
      go_ret
      exact ⟨rfl, hG, hB⟩

theorem run_makeRow {T E : TypeId} {z : Value} {bytes : Nat} (hT : Tryz.prog.underlying T = some (.slice E)) (hinfo : (Tryz.prog.info? E).map (fun i => (i.zero, i.size, i.bytes)) = some (some z, 1, bytes)) (hby : bytes ≤ 32) (n : Int) (N : Nat) (hn : n = (N : Int)) (hN : N ≤ 1099511627776) (W : World) :
    (Instr.makeSlice T (.int .i64 n) (.int .i64 n)).run Tryz.prog W = .ok (.slice (some ⟨W.heap.size, 0, none⟩) N N) (W.alloc (.cells (madeCells z.cells N) E)) := by
  subst hn
  obtain ⟨i0, hi, hz0, hzs, hz2⟩ := info_parts hinfo
  have h1 : i0.bytes * N ≤ 32 * 1099511627776 := by rw [hz2]; exact Nat.mul_le_mul hby hN
  have hr := run_make (P := Tryz.prog) W T E i0 z hT hi hz0 .i64 .i64 (N : Int) (N : Int) (by omega) (Int.le_refl _) (by
    have : ((i0.bytes * N : Nat) : Int) ≤ 281474976710656 := by omega
    rwa [Int.natCast_mul] at this) (by omega)
  simpa [hzs] using hr
theorem infoIs : (Tryz.prog.info? 55).map (fun i => (i.zero, i.size, i.bytes)) = some (some (.slice none 0 0), 1, 24) := by kernel_rfl
theorem Gm.low {x : List Int} {R : Nat} {t : List Int} {b base : Nat} {w w' : World} (h : Gm x R t b base w) (hb : Below w.heap.size w w') : Gm x R t b base w' := by
  obtain ⟨m, D, h1, h2, h3⟩ := h
  exact ⟨m, D, h1, h2.kept (low_grown hb none) (by simp) (fun _ _ _ e _ => by cases e.val.ownBlock <;> simp), h3⟩
/-- rows of places, one for each member of x -/
def Prt (x y : List Int) (R base k : Nat) (vs : List Value) (w : World) : Prop := vs.length = x.length ∧ ∀ i, i < k → ∃ v, vs[i]? = some v ∧ w.ownsInts base 3 .i64 v (nI (pj x y R i))
/-- a row of rows is written: rows of numbers stay -/
theorem ints_other {w : World} {base : Nat} {v : Value} {zs : List Int} (h : w.ownsInts base 3 .i64 v zs) {g : Nat} {cs : Array Value} {fz : Nat × Nat} (hg : w.heap[g]? = some (.cells cs 55 fz)) (j : Nat) (u : Value) : (w.setCell ⟨g, j, none⟩ u).ownsInts base 3 .i64 v zs := by
  refine h.kept (grown_set w g j u) ?_
  rcases h.1.2 with ⟨rfl, _⟩ | ⟨g', cap, cur, rfl, _, h2, _⟩
  · exact .inl rfl
  · right
    intro e
    simp [Value.ownBlock] at e
    subst e
    rw [h2] at hg
    cases hg
theorem Prt.set {x y : List Int} {R base k : Nat} {vs : List Value} {w : World} (h : Prt x y R base k vs w) (hk : k < x.length) {g : Nat} {cs : Array Value} {fz : Nat × Nat} (hg : w.heap[g]? = some (.cells cs 55 fz)) {v : Value} (hv : w.ownsInts base 3 .i64 v (nI (pj x y R k))) : Prt x y R base (k + 1) (vs.set k v) (w.setCell ⟨g, k, none⟩ v) := by
  refine ⟨by rw [List.length_set]; exact h.1, fun i hi => ?_⟩
  by_cases e : i = k
  · subst e
    exact ⟨v, List.getElem?_set_self (by rw [h.1]; exact hk), ints_other hv hg _ _⟩
  · obtain ⟨u, h1, h2⟩ := h.2 i (by omega)
    exact ⟨u, by rw [List.getElem?_set_ne (fun q => e q.symm)]; exact h1, ints_other h2 hg _ _⟩
theorem Prt.low {x y : List Int} {R base k : Nat} {vs : List Value} {w w' : World} (h : Prt x y R base k vs w) (hb : Below w.heap.size w w') : Prt x y R base k vs w' :=
  ⟨h.1, fun i hi => by obtain ⟨v, h1, h2⟩ := h.2 i hi; exact ⟨v, h1, h2.kept (low_grown hb none) (by cases v.ownBlock <;> simp)⟩⟩
set_option maxRecDepth 10000 in
set_option maxHeartbeats 2000000 in
theorem partners_f (x y : List Int) (R b base : Nat) (v : Value) (w : World) (hG : Gm x R y b base w) (hx : HI w v x) (hxl : x.length ≤ 1048576) (hyl : y.length ≤ 1048576) (hw : ∀ c ∈ x, w64 c) :
    Calls Tryz.prog 145 #[v, .map (some b)] w fun e w' => ∃ vs, e = .returned (.slice (some ⟨w.heap.size, 0, none⟩) x.length x.length) ∧ w'.ownsRow w.heap.size 55 1 (.slice (some ⟨w.heap.size, 0, none⟩) x.length x.length) x.length vs ∧ Prt x y R base x.length vs w' ∧ Below w.heap.size w w' := by
  obtain ⟨xo, xc, rfl⟩ := Holds.form hx
  have hmk := run_makeRow (T := 248) Tryz.underlying248 infoIs (by decide) (x.length : Int) x.length rfl (by omega)
  have hrow := World.ownsRow_lit (base := w.heap.size) (e := 55) (size := 1) w (madeCells #[.slice none 0 0] x.length) x.length (Nat.le_refl _) (by unfold maxLen; omega) (by rw [size_madeCells]; simp)
  have HW : Hid (∀ c ∈ x, w64 c) := hw
  clear hw
  go_enter Tryz.func145, Tryz.ntmps145
  go_wp2
  go_loopw [13] (fun iv wr => ∃ (i : Nat) (vs : List Value), i ≤ x.length ∧ iv = .int .i64 i ∧ wr.ownsRow w.heap.size 55 1 (.slice (some ⟨w.heap.size, 0, none⟩) x.length x.length) x.length vs ∧ Prt x y R base i vs wr ∧ Below w.heap.size w wr) (fun iv _ => x.length - (intOf iv).toNat)
  case atStart => exact ⟨0, _, Nat.zero_le _, rfl, hrow, ⟨by have := hrow.1; simpa using this, fun i hi => by omega⟩, (Below.refl _ w).alloc (Nat.le_refl _) _⟩
  case round =>
    clear hmk hrow
    obtain ⟨i, vs, hi, rfl, hO, hP, hB⟩ := hrel
    have hs := hB.size
    by_cases hil : i < x.length
    · obtain ⟨bx, off, rfl, _, hc⟩ := HI.at (HI.keep hx hB (Nat.le_refl _)) (by omega)
      have c0 := hc i hil
      have hzw : w64 x[i] := HW.out _ (List.getElem_mem hil)
      obtain ⟨m, D, hm, hown, hgd⟩ := hG
      have hown2 := hown.kept (low_grown hB none) (by simp) (fun _ _ _ e _ => by cases e.val.ownBlock <;> simp)
      obtain ⟨v2, zs2, hrun, hat2, hoi2, hzl2, _⟩ := hown2.at hKeyed Tryz.underlying250 (zeroIs wr) (by unfold maxLen; omega) (hKey hzw)
      have hzs := hgd.zs hoi2 hat2
      rw [pl_pj x y R i hil] at hzs
      rw [hzs] at hoi2
      obtain ⟨z, hz⟩ : ∃ z, x[i] = z := ⟨_, rfl⟩
      rw [hz] at c0 hrun
      obtain ⟨so, sc, rfl⟩ := (holds_of hoi2.1).form
      obtain ⟨cs, hcs⟩ : ∃ cs, wr.heap[w.heap.size]? = some (.cells cs 55 (0, 0)) := by
        rcases hO.2 with ⟨h, _⟩ | ⟨g', cap, cur, h, _, h2, _⟩
        · cases h
        · cases h; exact ⟨_, h2⟩
      have hvl := hP.1
      have y0 := hO.cellAt i (by omega)
      rw [List.getElem?_eq_getElem (by omega)] at y0
      have f0 := hO.frozenAt i
      obtain ⟨p1, g1⟩ := hO.stored i (.slice so (nI (pj x y R i)).length sc)
      have hP2 := hP.set hil hcs hoi2
      have hB' : Below w.heap.size w (wr.setCell ⟨w.heap.size, i, none⟩ (.slice so (nI (pj x y R i)).length sc)) := hB.grown g1 hs (fun j hj => owns_ge hO (by simpa [Value.ownBlock] using hj))
      obtain ⟨n2, hn2⟩ : ∃ n, (nI (pj x y R i)).length = n := ⟨_, rfl⟩
      rw [hn2] at hrun p1 hP2 hB'
      clear hc hz hat2 hoi2 hzs hown hown2 hgd hm hO hP hcs g1
      have i1 : 0 ≤ (i : Int) := by omega
      have i2 : (i : Int) < (x.length : Int) := by omega
      generalize vs[i] = old at y0
      go_wp2
      go_roundw
      case rel => exact ⟨i + 1, _, by omega, by go_num, p1, hP2, hB'⟩
      case measure => simp [intOf]; omega
    · obtain rfl : i = x.length := by omega
      go_wp2
      go_ret
      exact ⟨vs, rfl, hO, hP, hB⟩
end Go.Proofs.YtnlbjknfahhfaaaGreatDoor

/- Small functions of the layer histogram: same, cmp.Compare, cmp.Or, outdoes, walked. -/
set_option maxRecDepth 20000
namespace Go.Proofs.YtnlbjknfahhfaaaGreatDoor
open Go.RowKit

set_option maxRecDepth 10000 in
set_option maxHeartbeats 2000000 in
theorem same_f (x y : List Int) (vx vy : Value) (w : World) (hx : HI w vx x) (hy : HI w vy y) (hxl : x.length ≤ 1048576) (r : Nat) (hr : Hid (fr x y = r)) :
    Calls Tryz.prog 147 #[vx, vy] w fun e w' => e = .returned (.int .i64 (r : Int)) ∧ Below w.heap.size w w' := by
  obtain ⟨xo, xc, rfl⟩ := Holds.form hx
  obtain ⟨yo, yc, rfl⟩ := Holds.form hy
  have HF0 : Hid (fr (x.drop 0) (y.drop 0) + 0 = r) := hr
  go_enter Tryz.func147, Tryz.ntmps147
  go_wp2
  go_loopw [5] (fun iv wr => ∃ k : Nat, k ≤ x.length ∧ k ≤ y.length ∧ iv = .int .i64 k ∧ Below w.heap.size w wr ∧ Hid (fr (x.drop k) (y.drop k) + k = r)) (fun iv _ => x.length - (intOf iv).toNat)
  case atStart => exact ⟨0, Nat.zero_le _, Nat.zero_le _, rfl, Below.refl _ _, HF0⟩
  case round =>
    clear HF0
    obtain ⟨k, hkx, hky, rfl, hBr, HF⟩ := hrel
    obtain ⟨q, hq⟩ : ∃ q, decide (k < x.length ∧ k < y.length ∧ x[k]? = y[k]?) = q := ⟨_, rfl⟩
    have HQ : Hid (decide (k < x.length ∧ k < y.length ∧ x[k]? = y[k]?) = q) := hq
    clear hq
    have i1 : 0 ≤ (k : Int) := by omega
    go_wp2_with fail
    go_cut [26] from 6 to 28 (fun z wz => z = .bool q ∧ ∃ m, wz = wr.drewN m)
    case first =>
      by_cases h3 : k < x.length
      · have e7 : decide ((k : Int) < (x.length : Int)) = true := decide_eq_true (by omega)
        by_cases h4 : k < y.length
        · have e8 : decide ((k : Int) < (y.length : Int)) = true := decide_eq_true (by omega)
          obtain ⟨xb, xf, rfl, _, hcx⟩ := HI.at (HI.keep hx hBr (Nat.le_refl _)) (by omega)
          obtain ⟨yb, yf, rfl, _, hcy⟩ := HI.at (HI.keep hy hBr (Nat.le_refl _)) (by omega)
          have x0 := hcx k (by omega)
          have y0 := hcy k (by omega)
          obtain ⟨zx, hzx⟩ : ∃ z, x[k] = z := ⟨_, rfl⟩
          obtain ⟨zy, hzy⟩ : ∃ z, y[k] = z := ⟨_, rfl⟩
          rw [hzx] at x0
          rw [hzy] at y0
          have i2 : (k : Int) < (x.length : Int) := by omega
          have i3 : (k : Int) < (y.length : Int) := by omega
          have e9 : (zx == zy) = q := by
            rw [← HQ.out, List.getElem?_eq_getElem h3, List.getElem?_eq_getElem h4, hzx, hzy]
            by_cases q : zx = zy <;> simp [h3, h4, q]
          clear hcx hcy hzx hzy HQ
          go_big_quiet (fail)
          go_wp2
          go_meet
          case rel => exact ⟨rfl, _, rfl⟩
        · have e8 : decide ((k : Int) < (y.length : Int)) = false := decide_eq_false (by omega)
          obtain rfl : q = false := by rw [← HQ.out]; simp [h4]
          go_big_quiet (fail)
          go_wp2
          go_meet
          case rel => exact ⟨rfl, _, rfl⟩
      · have e7 : decide ((k : Int) < (x.length : Int)) = false := decide_eq_false (by omega)
        obtain rfl : q = false := by rw [← HQ.out]; simp [h3]
        go_big_quiet (fail)
        go_wp2
        go_meet
        case rel => exact ⟨rfl, _, rfl⟩
    case rest =>
      obtain ⟨rfl, mq, rfl⟩ := hcut
      have hBq := Below.dN hBr mq
      clear hBr
      generalize wr.drewN mq = wq at hBq ⊢
      cases q with
      | true =>
        obtain ⟨h3, h4, h5⟩ := of_decide_eq_true HQ.out
        have HF2 : Hid (fr (x.drop (k + 1)) (y.drop (k + 1)) + (k + 1) = r) := (by
          show _ = _
          rw [← HF.out, fr_step x y k h3 h4, if_pos (by rw [List.getElem?_eq_getElem h3, List.getElem?_eq_getElem h4] at h5; simpa using h5)]
          omega)
        clear HF HQ
        go_wp2
        go_roundw
        case rel => exact ⟨k + 1, by omega, by omega, by go_num, hBq, HF2⟩
        case measure => simp [intOf]; omega
      | false =>
        have hk : k = r := by
          have h3 := of_decide_eq_false HQ.out
          rw [← HF.out]
          by_cases hx' : k < x.length
          · by_cases hy' : k < y.length
            · rw [fr_step x y k hx' hy', if_neg (fun e => h3 ⟨hx', hy', by rw [List.getElem?_eq_getElem hx', List.getElem?_eq_getElem hy', e]⟩)]
              omega
            · rw [List.drop_of_length_le (l := y) (by omega)]
              cases x.drop k <;> simp [fr]
          · rw [List.drop_of_length_le (l := x) (by omega)]
            simp [fr]
        subst hk
        clear HF HQ
        go_wp2
        go_ret
        exact ⟨rfl, hBq⟩

/-- how two numbers stand to one another -/
def cmpI (a b : Int) : Int := if a < b then -1 else if b < a then 1 else 0
theorem isNaN_f (a : Int) (w : World) : Calls Tryz.prog 182 #[.int .i64 a] w fun e w' => e = .returned (.bool false) ∧ w = w' := by
  go_enter Tryz.func182, Tryz.ntmps182
  go_wp2
  go_ret
  exact ⟨by first | rfl | (simp; done), rfl⟩
theorem Compare_f (a b r : Int) (w : World) (hr : Hid (cmpI a b = r)) : Calls Tryz.prog 166 #[.int .i64 a, .int .i64 b] w fun e w' => e = .returned (.int .i64 r) ∧ w = w' := by
  go_enter Tryz.func166, Tryz.ntmps166
  go_wp2_with fail
  refine (isNaN_f a w).mono ?_
  rintro e w1 ⟨rfl, rfl⟩
  go_wp2_with fail
  refine (isNaN_f b w).mono ?_
  rintro e w1 ⟨rfl, rfl⟩
  by_cases h1 : a < b
  · obtain rfl : -1 = r := by rw [← hr.out, cmpI, if_pos h1]
    go_wp2
    go_ret
    exact ⟨rfl, rfl⟩
  · by_cases h2 : b < a
    · obtain rfl : 1 = r := by rw [← hr.out, cmpI, if_neg h1, if_pos h2]
      go_wp2
      go_ret
      exact ⟨rfl, rfl⟩
    · obtain rfl : 0 = r := by rw [← hr.out, cmpI, if_neg h1, if_neg h2]
      go_wp2
      go_ret
      exact ⟨rfl, rfl⟩
/-- the first that is not nought -/
def orL : List Int → Int
  | [] => 0
  | a :: l => if a = 0 then orL l else a
set_option maxHeartbeats 1000000 in
theorem Or_f (l : List Int) (v : Value) (w : World) (hl : HI w v l) (hll : l.length ≤ 1048576) (r : Int) (hr : Hid (orL l = r)) : Calls Tryz.prog 165 #[v] w fun e w' => e = .returned (.int .i64 r) ∧ w = w' := by
  obtain ⟨lo, lc, rfl⟩ := Holds.form hl
  go_enter Tryz.func165, Tryz.ntmps165
  go_wp2
  go_loopw [8] (fun iv wr => ∃ k : Nat, k ≤ l.length ∧ iv = .int .i64 k ∧ wr = w ∧ Hid (orL (l.drop k) = r)) (fun iv _ => l.length - (intOf iv).toNat)
  case atStart => exact ⟨0, Nat.zero_le _, rfl, rfl, hr⟩
  case round =>
    obtain ⟨k, hk, rfl, rfl, HR⟩ := hrel
    by_cases hlt : k < l.length
    · obtain ⟨b, off, rfl, _, hc⟩ := HI.at hl (by omega)
      have c0 := hc k hlt
      obtain ⟨z, hz⟩ : ∃ z, l[k] = z := ⟨_, rfl⟩
      rw [hz] at c0
      have HR2 : Hid ((if z = 0 then orL (l.drop (k + 1)) else z) = r) := (by
        show _ = _
        have := HR.out
        rw [List.drop_eq_getElem_cons hlt, orL, hz] at this
        exact this)
      clear hc hz HR
      have i1 : 0 ≤ (k : Int) := by omega
      have i2 : (k : Int) < (l.length : Int) := by omega
      by_cases h0 : z = 0
      · have e1 : (z != 0) = false := by simp [h0]
        have HR3 : Hid (orL (l.drop (k + 1)) = r) := (by
          show _ = _
          have := HR2.out
          rw [if_pos h0] at this
          exact this)
        clear HR2 h0
        go_wp2
        go_roundw
        case rel => exact ⟨k + 1, by omega, by go_num, trivial, HR3⟩
        case measure => simp [intOf]; omega
      · have e1 : (z != 0) = true := by simp [h0]
        obtain rfl : z = r := by
          have := HR2.out
          rw [if_neg h0] at this
          exact this
        clear HR2 h0
        go_wp2
        go_ret
        exact ⟨rfl, rfl⟩
    · obtain rfl : k = l.length := by omega
      obtain rfl : 0 = r := by
        rw [← HR.out, List.drop_of_length_le (Nat.le_refl _)]
        rfl
      go_wp2
      go_ret
      exact ⟨rfl, rfl⟩
theorem cmp_lt {a b : Nat} (h : a < b) : cmpI a b = -1 := by unfold cmpI; rw [if_pos (by omega)]
theorem cmp_gt {a b : Nat} (h : b < a) : cmpI a b = 1 := by unfold cmpI; rw [if_neg (by omega), if_pos (by omega)]
theorem cmp_eq {a b : Nat} (h : a = b) : cmpI a b = 0 := by unfold cmpI; rw [if_neg (by omega), if_neg (by omega)]
theorem or_bt (r b : Hr) : decide (0 < orL [cmpI r.N b.N, cmpI b.X r.X, cmpI b.Y r.Y]) = btC r b := by
  unfold btC
  rcases Nat.lt_trichotomy r.N b.N with h | h | h
  · rw [cmp_lt h]
    simp [orL]
    omega
  · rcases Nat.lt_trichotomy b.X r.X with h2 | h2 | h2
    · rw [cmp_eq h, cmp_lt h2]
      simp [orL]
      omega
    · rcases Nat.lt_trichotomy b.Y r.Y with h3 | h3 | h3
      · rw [cmp_eq h, cmp_eq h2, cmp_lt h3]
        simp [orL]
        omega
      · rw [cmp_eq h, cmp_eq h2, cmp_eq h3]
        simp [orL]
        omega
      · rw [cmp_eq h, cmp_eq h2, cmp_gt h3]
        simp [orL, h, h2, h3]
    · rw [cmp_eq h, cmp_gt h2]
      simp [orL, h, h2]
  · rw [cmp_gt h]
    simp [orL, h]
end Go.Proofs.YtnlbjknfahhfaaaGreatDoor
