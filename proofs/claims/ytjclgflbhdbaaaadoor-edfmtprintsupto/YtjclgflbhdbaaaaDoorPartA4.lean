/-
  Texts that belong together, joined: MiMath, EdMk, MiLen, MiMs, MiFr, MiLc, MiRep, MiKp, MiKw, MiDf, MiKm, PcMath, PcSl, EdOpen, EdOpenS, EfAp, EdSameS.
-/
import Derived.Test.YtjclgflbhdbaaaaDoorPartA1
import Derived.Test.YtjclgflbhdbaaaaDoorPartA3
import Derived.Deep.CutRange
import Derived.Sort.AtCall
import Derived.Laws.CopyOwn
import Derived.Laws.Bits64b
import Derived.Test.YtjclgflbhdbaaaaDoorRows
import Derived.Test.YtjclgflbhdbaaaaDoorChecked
import Derived.ProofKit
import Derived.OpenShut
import Derived.ShutString
import Derived.ChangeOld
import Derived.Below
import Derived.SliceStrings
import Derived.ChangeSlices
import Derived.Deep.Slices
import Derived.Deep.SlicePairs
import Derived.JoinedCond

/- How long the longest common row of two rows of numbers is, what is kept, and what follows: plain. -/
namespace Go.Proofs.YtjclgflbhdbaaaaDoor

/-- how long the longest common row is -/
def lc : List Int → List Int → Nat
  | [], _ => 0
  | _ :: _, [] => 0
  | a :: x, b :: y => if a = b then lc x y + 1 else max (lc x (b :: y)) (lc (a :: x) y)
theorem lc_nil_left (y : List Int) : lc [] y = 0 := by rw [lc]
theorem lc_nil_right (x : List Int) : lc x [] = 0 := by cases x <;> rw [lc]
theorem lc_cons (a b : Int) (x y : List Int) : lc (a :: x) (b :: y) = if a = b then lc x y + 1 else max (lc x (b :: y)) (lc (a :: x) y) := by rw [lc]
theorem lc_ex (x y : List Int) : ∃ s : List Int, s.Sublist x ∧ s.Sublist y ∧ s.length = lc x y := by
  induction x generalizing y with
  | nil => exact ⟨[], List.Sublist.refl _, List.nil_sublist _, by rw [lc_nil_left]; rfl⟩
  | cons a x ih =>
    induction y with
    | nil => exact ⟨[], List.nil_sublist _, List.Sublist.refl _, by rw [lc_nil_right]; rfl⟩
    | cons b y ihy =>
      rw [lc_cons]
      by_cases h : a = b
      · subst h
        obtain ⟨s, h1, h2, h3⟩ := ih y
        exact ⟨a :: s, h1.cons_cons a, h2.cons_cons a, by rw [if_pos rfl]; simp [h3]⟩
      · rw [if_neg h]
        obtain ⟨s, h1, h2, h3⟩ := ih (b :: y)
        obtain ⟨t, k1, k2, k3⟩ := ihy
        by_cases hm : lc x (b :: y) ≤ lc (a :: x) y
        · exact ⟨t, k1, k2.cons b, by omega⟩
        · exact ⟨s, h1.cons a, h2, by omega⟩
theorem lc_le (s x y : List Int) (hx : s.Sublist x) (hy : s.Sublist y) : s.length ≤ lc x y := by
  induction x generalizing y s with
  | nil => rw [List.sublist_nil.1 hx]; simp
  | cons a x ih =>
    induction y generalizing s with
    | nil => rw [List.sublist_nil.1 hy]; simp
    | cons b y ihy =>
      rw [lc_cons]
      by_cases h : a = b
      · subst h
        rw [if_pos rfl]
        cases hx with
        | cons _ hx =>
          cases hy with
          | cons _ hy => have := ih s y hx hy; omega
          | cons_cons _ hy =>
            rename_i s
            have := ih s y ((List.sublist_cons_self a s).trans hx) hy
            simp; omega
        | cons_cons _ hx =>
          rename_i s
          have : s.Sublist y := by
            cases hy with
            | cons _ hy => exact (List.sublist_cons_self a s).trans hy
            | cons_cons _ hy => exact hy
          have := ih s y hx this
          simp; omega
      · rw [if_neg h]
        cases hx with
        | cons _ hx => have := ih s (b :: y) hx hy; omega
        | cons_cons _ hx =>
          rename_i s
          cases hy with
          | cons _ hy => have := ihy (a :: s) (hx.cons_cons a) hy; omega
          | cons_cons _ hy => exact absurd rfl h
theorem lc_left (x y : List Int) : lc x y ≤ x.length := by
  obtain ⟨s, h1, _, h3⟩ := lc_ex x y
  rw [← h3]; exact h1.length_le
theorem lc_right (x y : List Int) : lc x y ≤ y.length := by
  obtain ⟨s, _, h2, h3⟩ := lc_ex x y
  rw [← h3]; exact h2.length_le
theorem lc_of {x y x' y' : List Int} (h : ∀ s : List Int, s.Sublist x → s.Sublist y → ∃ t : List Int, t.Sublist x' ∧ t.Sublist y' ∧ s.length ≤ t.length) : lc x y ≤ lc x' y' := by
  obtain ⟨s, h1, h2, h3⟩ := lc_ex x y
  obtain ⟨t, k1, k2, k3⟩ := h s h1 h2
  have := lc_le t x' y' k1 k2
  omega
theorem lc_comm (x y : List Int) : lc x y = lc y x := Nat.le_antisymm (lc_of fun s a b => ⟨s, b, a, Nat.le_refl _⟩) (lc_of fun s a b => ⟨s, b, a, Nat.le_refl _⟩)
theorem lc_rev (x y : List Int) : lc x.reverse y.reverse = lc x y := by
  refine Nat.le_antisymm (lc_of fun s a b => ⟨s.reverse, ?_, ?_, by simp⟩) (lc_of fun s a b => ⟨s.reverse, List.reverse_sublist.2 a, List.reverse_sublist.2 b, by simp⟩)
  · have := List.reverse_sublist.2 a; rwa [List.reverse_reverse] at this
  · have := List.reverse_sublist.2 b; rwa [List.reverse_reverse] at this
theorem lc_self (x : List Int) : lc x x = x.length := Nat.le_antisymm (lc_left x x) (lc_le x x x (List.Sublist.refl _) (List.Sublist.refl _))
theorem lc_ahead (c : Int) (x y : List Int) : lc (c :: x) (c :: y) = lc x y + 1 := by rw [lc_cons, if_pos rfl]
theorem lc_mono {x x' y y' : List Int} (hx : x.Sublist x') (hy : y.Sublist y') : lc x y ≤ lc x' y' := lc_of fun s a b => ⟨s, a.trans hx, b.trans hy, Nat.le_refl _⟩
/-- a line more -/
theorem lc_more (p q y : List Int) (c : Int) : lc (p ++ q) y ≤ lc (p ++ c :: q) y ∧ lc (p ++ c :: q) y ≤ lc (p ++ q) y + 1 := by
  refine ⟨lc_mono ((List.Sublist.refl p).append (List.sublist_cons_self c q)) (List.Sublist.refl y), ?_⟩
  obtain ⟨s, h1, h2, h3⟩ := lc_ex (p ++ c :: q) y
  obtain ⟨s1, s2, rfl, k1, k2⟩ := List.sublist_append_iff.1 h1
  cases k2 with
  | cons _ k2 =>
    have := lc_le (s1 ++ s2) (p ++ q) y (k1.append k2) h2
    omega
  | cons_cons _ k2 =>
    rename_i s2
    have := lc_le (s1 ++ s2) (p ++ q) y (k1.append k2) (((List.Sublist.refl s1).append (List.sublist_cons_self c s2)).trans h2)
    simp at h3 this
    omega
/-- rows behind both -/
theorem lc_behind (x y u v : List Int) : lc x y + lc u v ≤ lc (x ++ u) (y ++ v) := by
  obtain ⟨s, h1, h2, h3⟩ := lc_ex x y
  obtain ⟨t, k1, k2, k3⟩ := lc_ex u v
  have := lc_le (s ++ t) (x ++ u) (y ++ v) (h1.append k1) (h2.append k2)
  simp at this
  omega
theorem lc_all (x y : List Int) : lc x y = x.length ↔ x.Sublist y := by
  constructor
  · intro h
    obtain ⟨s, h1, h2, h3⟩ := lc_ex x y
    have : s = x := h1.eq_of_length (by omega)
    rwa [← this]
  · intro h
    exact Nat.le_antisymm (lc_left x y) (lc_le x x y (List.Sublist.refl _) h)
/-- how much of x is found in y, going through y once -/
def gr : List Int → List Int → Nat
  | [], _ => 0
  | _ :: _, [] => 0
  | a :: x, b :: y => if a = b then gr x y + 1 else gr (a :: x) y
theorem gr_le (x y : List Int) : gr x y ≤ x.length := by
  induction y generalizing x with
  | nil => cases x <;> simp [gr]
  | cons b y ih =>
    cases x with
    | nil => simp [gr]
    | cons a x =>
      rw [gr]
      split
      · have := ih x; simp; omega
      · exact ih (a :: x)
theorem gr_all (x y : List Int) : gr x y = x.length ↔ x.Sublist y := by
  induction y generalizing x with
  | nil => cases x <;> simp [gr]
  | cons b y ih =>
    cases x with
    | nil => simp [gr]
    | cons a x =>
      rw [gr]
      by_cases h : a = b
      · subst h
        rw [if_pos rfl]
        have := ih x
        rw [List.cons_sublist_cons, ← this]
        simp
      · rw [if_neg h, ih (a :: x)]
        constructor
        · exact fun h => h.cons b
        · intro k
          cases k with
          | cons _ k => exact k
          | cons_cons _ k => exact absurd rfl h

/-- what is kept: with which of y's members, numbered from b on, each of x's makes a pair -/
def kp (b : Int) : List Int → List Int → List Int
  | [], _ => []
  | _ :: x, [] => -1 :: kp b x []
  | a :: x, c :: y => if a = c then b :: kp (b + 1) x y else if lc (a :: x) y ≤ lc x (c :: y) then -1 :: kp b x (c :: y) else kp (b + 1) (a :: x) y
theorem kp_nil (b : Int) (y : List Int) : kp b [] y = [] := by rw [kp]
theorem kp_none (b : Int) (x : List Int) : kp b x [] = List.replicate x.length (-1) := by
  induction x with
  | nil => rw [kp]; rfl
  | cons a x ih => rw [kp, ih]; rfl
theorem kp_cons (b a c : Int) (x y : List Int) : kp b (a :: x) (c :: y) = if a = c then b :: kp (b + 1) x y else if lc (a :: x) y ≤ lc x (c :: y) then -1 :: kp b x (c :: y) else kp (b + 1) (a :: x) y := by rw [kp]
theorem kp_length (b : Int) (x y : List Int) : (kp b x y).length = x.length := by
  induction x generalizing y b with
  | nil => rw [kp_nil]
  | cons a x ih =>
    induction y generalizing b with
    | nil => rw [kp_none]; simp
    | cons c y ihy =>
      rw [kp_cons]
      split
      · simp [ih]
      split
      · simp [ih]
      · exact ihy _
theorem Vk.up {a b m : Int} {K : List Int} (h : Vk b m K) (hab : a ≤ b) : Vk a m K := by
  induction K with
  | nil => trivial
  | cons z t ih =>
    rcases h with ⟨h1, h2⟩ | ⟨h1, h2, h3⟩
    · exact .inl ⟨h1, ih h2⟩
    · exact .inr ⟨h1, by omega, h3⟩
theorem Vk.none (b m : Int) (k : Nat) : Vk b m (List.replicate k (-1)) := by
  induction k with
  | zero => trivial
  | succ k ih => exact .inl ⟨rfl, ih⟩
theorem kp_vk (b : Int) (x y : List Int) (hb : 0 ≤ b) : Vk b (b + y.length) (kp b x y) := by
  induction x generalizing y b with
  | nil => rw [kp_nil]; trivial
  | cons a x ih =>
    induction y generalizing b with
    | nil => rw [kp_none]; exact Vk.none _ _ _
    | cons c y ihy =>
      rw [kp_cons]
      split
      · refine .inr ⟨by omega, by omega, by simp; omega, ?_⟩
        have := ih (b + 1) y (by omega)
        rw [show b + ((c :: y).length : Int) = b + 1 + (y.length : Int) by simp; omega]
        exact this
      split
      · exact .inl ⟨rfl, ih b (c :: y) hb⟩
      · have := ihy (b + 1) (by omega)
        rw [show b + ((c :: y).length : Int) = b + 1 + (y.length : Int) by simp; omega]
        exact this.up (by omega)
/-- how many pairs a list of what is kept holds -/
def prs (K : List Int) : Nat := (K.filter fun z => decide (0 ≤ z)).length
theorem prs_kp (b : Int) (x y : List Int) (hb : 0 ≤ b) : prs (kp b x y) = lc x y := by
  induction x generalizing y b with
  | nil => rw [kp_nil, lc_nil_left]; rfl
  | cons a x ih =>
    induction y generalizing b with
    | nil =>
      rw [kp_none, lc_nil_right]
      simp [prs]
    | cons c y ihy =>
      rw [kp_cons, lc_cons]
      by_cases h : a = c
      · rw [if_pos h, if_pos h, ← ih (b + 1) y (by omega)]
        simp [prs, hb]
      · rw [if_neg h, if_neg h]
        split
        · have := ih b (c :: y) hb
          rw [show prs (-1 :: kp b x (c :: y)) = prs (kp b x (c :: y)) by simp [prs], this]
          omega
        · rw [ihy (b + 1) (by omega)]
          omega
/-- what is kept is the same -/
theorem kp_same (b : Int) (x y : List Int) (hb : 0 ≤ b) (i : Nat) (z : Int) (h : (kp b x y)[i]? = some z) (hz : 0 ≤ z) : b ≤ z ∧ ∃ c, x[i]? = some c ∧ y[(z - b).toNat]? = some c := by
  induction x generalizing y b i with
  | nil => rw [kp_nil] at h; simp at h
  | cons a x ih =>
    induction y generalizing b i with
    | nil =>
      rw [kp_none] at h
      have := List.eq_of_mem_replicate (List.mem_of_getElem? h)
      omega
    | cons c y ihy =>
      rw [kp_cons] at h
      by_cases e : a = c
      · subst e
        rw [if_pos rfl] at h
        cases i with
        | zero =>
          simp at h
          subst h
          exact ⟨Int.le_refl _, a, by simp, by simp⟩
        | succ i =>
          obtain ⟨h1, d, h2, h3⟩ := ih (b + 1) y (by omega) i (by simpa using h)
          refine ⟨by omega, d, by simpa using h2, ?_⟩
          rw [show (z - b).toNat = (z - (b + 1)).toNat + 1 by omega]
          simpa using h3
      · rw [if_neg e] at h
        split at h
        · cases i with
          | zero => simp at h; omega
          | succ i =>
            obtain ⟨h1, d, h2, h3⟩ := ih b (c :: y) hb i (by simpa using h)
            exact ⟨h1, d, by simpa using h2, h3⟩
        · obtain ⟨h1, d, h2, h3⟩ := ihy (b + 1) (by omega) i h
          refine ⟨by omega, d, h2, ?_⟩
          rw [show (z - b).toNat = (z - (b + 1)).toNat + 1 by omega]
          simpa using h3
/-- how many members are the same at the front -/
def fr : List Int → List Int → Nat
  | a :: x, b :: y => if a = b then fr x y + 1 else 0
  | _, _ => 0
theorem fr_le (x y : List Int) : fr x y ≤ x.length ∧ fr x y ≤ y.length := by
  induction x generalizing y with
  | nil => simp [fr]
  | cons a x ih =>
    cases y with
    | nil => simp [fr]
    | cons b y =>
      have := ih y
      rw [fr]
      split <;> simp <;> omega
theorem fr_lc (x y : List Int) : fr x y + lc (x.drop (fr x y)) (y.drop (fr x y)) = lc x y := by
  induction x generalizing y with
  | nil => simp [fr, lc_nil_left]
  | cons a x ih =>
    cases y with
    | nil => simp [fr, lc_nil_right]
    | cons b y =>
      have := ih y
      rw [fr]
      split
      · rename_i h
        subst h
        rw [lc_ahead]
        simp
        omega
      · simp
theorem fr_at (x y : List Int) (i : Nat) (h : i < fr x y) : x[i]? = y[i]? := by
  induction x generalizing y i with
  | nil => simp [fr] at h
  | cons a x ih =>
    cases y with
    | nil => simp [fr] at h
    | cons b y =>
      rw [fr] at h
      split at h
      · rename_i e
        subst e
        cases i with
        | zero => simp
        | succ i => simpa using ih y i (by omega)
      · omega
theorem fr_step (x y : List Int) (i : Nat) (hx : i < x.length) (hy : i < y.length) : fr (x.drop i) (y.drop i) = if x[i] = y[i] then fr (x.drop (i + 1)) (y.drop (i + 1)) + 1 else 0 := by
  rw [List.drop_eq_getElem_cons hx, List.drop_eq_getElem_cons hy, fr]
/-- a length of two places -/
def ln (x y : List Int) (i j : Nat) : Nat := lc (x.drop i) (y.drop j)
theorem ln_end (x y : List Int) (i j : Nat) (h : x.length ≤ i ∨ y.length ≤ j) : ln x y i j = 0 := by
  rcases h with h | h
  · rw [ln, List.drop_of_length_le h, lc_nil_left]
  · rw [ln, List.drop_of_length_le h, lc_nil_right]
theorem ln_step (x y : List Int) (i j : Nat) (hx : i < x.length) (hy : j < y.length) : ln x y i j = if x[i] = y[j] then ln x y (i + 1) (j + 1) + 1 else max (ln x y (i + 1) j) (ln x y i (j + 1)) := by
  unfold ln
  rw [List.drop_eq_getElem_cons hx, List.drop_eq_getElem_cons hy, lc_cons]
theorem ln_le (x y : List Int) (i j : Nat) : ln x y i j ≤ x.length := by
  have := lc_left (x.drop i) (y.drop j)
  simp at this
  unfold ln
  omega
theorem ln_zero (x y : List Int) : ln x y 0 0 = lc x y := rfl
theorem kp_step (b : Int) (x y : List Int) (i j : Nat) (hx : i < x.length) (hy : j < y.length) : kp b (x.drop i) (y.drop j) = if x[i] = y[j] then b :: kp (b + 1) (x.drop (i + 1)) (y.drop (j + 1)) else if ln x y i (j + 1) ≤ ln x y (i + 1) j then -1 :: kp b (x.drop (i + 1)) (y.drop j) else kp (b + 1) (x.drop i) (y.drop (j + 1)) := by
  unfold ln
  rw [List.drop_eq_getElem_cons hx, List.drop_eq_getElem_cons hy, kp_cons]
theorem kp_same_front (b : Int) (x y : List Int) (i : Nat) (h : i < fr x y) : kp b (x.drop i) (y.drop i) = b :: kp (b + 1) (x.drop (i + 1)) (y.drop (i + 1)) := by
  have h1 := fr_le x y
  rw [kp_step b x y i i (by omega) (by omega), if_pos]
  have := fr_at x y i h
  rw [List.getElem?_eq_getElem (by omega), List.getElem?_eq_getElem (by omega)] at this
  simpa using this
end Go.Proofs.YtjclgflbhdbaaaaDoor

/- Scripts are made: between, Make, walked. -/
namespace Go.Proofs.YtjclgflbhdbaaaaDoor
open Go.RowKit

theorem ret_tuple {a b : Value} (h : a = b) : Ending.returned a = .returned b := by rw [h]
/-- numbers of a run that are small enough for sums -/
def sm (r : Rn) : Prop := 0 ≤ r.a ∧ r.a ≤ 4294967296 ∧ 0 ≤ r.b ∧ r.b ≤ 4294967296 ∧ 0 ≤ r.n ∧ r.n ≤ 4294967296
theorem owns_apart {w w' : World} {base base' : Nat} {e e' : TypeId} {s s' : Nat} {v v' : Value} {n n' : Nat} {xs xs' : List Value} (h : w.ownsRow base e s v n xs) (h' : w.ownsRow base' e' s' v' n' xs') (hne : e ≠ e') (h0 : 0 < n) (hg : w.grownBy w' v'.ownBlock) : w'.ownsRow base e s v n xs := by
  refine h.kept hg (.inr ?_)
  rcases h.2 with ⟨_, h1⟩ | ⟨g, cap, cur, rfl, _, hc, _⟩
  · omega
  · rcases h'.2 with ⟨rfl, _⟩ | ⟨g', cap', cur', rfl, _, hc', _⟩
    · simp [Value.ownBlock]
    · intro e1
      simp only [Value.ownBlock, Option.some.injEq] at e1
      subst e1
      rw [hc] at hc'
      cases hc'
      exact hne rfl

theorem new_holds_at (W : World) (g : Nat) (hg : W.heap.size = g) (cs : Array Value) (e : TypeId) (k c : Nat) (hkc : k ≤ c) : Holds (W.alloc (.cells cs e)) (.slice (some ⟨g, 0, none⟩) k c) k cs.toList := by
  subst hg
  exact new_holds W cs e k c hkc

theorem Right.num {f : Bool} {a b n m : Int} {l : List Ch} (h : Right f a b n m l) : ∀ c ∈ l, numB c = true := by
  induction l generalizing f a b with
  | nil => simp
  | cons c l ih =>
    intro d hd
    rw [List.mem_cons] at hd
    rcases hd with rfl | hd
    · exact h.1.1
    · exact ih h.2 d hd
theorem Vk.lt {nx m : Int} {K : List Int} (h : Vk nx m K) : ∀ z ∈ K, z = -1 ∨ z < m := by
  induction K generalizing nx with
  | nil => simp
  | cons y t ih =>
    intro z hz
    rw [List.mem_cons] at hz
    rcases h with ⟨rfl, h⟩ | ⟨hy, h1, h2, h3⟩
    · rcases hz with rfl | hz
      · exact .inl rfl
      · exact ih h z hz
    · rcases hz with rfl | hz
      · exact .inr h2
      · exact ih h3 z hz
/-- the script that a list of what is kept makes -/
def mkL (K : List Int) (m : Int) : List Ch := betw 0 0 (keptR 0 K ++ [⟨K.length, m, 0⟩])
theorem mk_script {K : List Int} {m : Int} (h : Vk 0 m K) (h0 : 0 ≤ m) (hm : m ≤ 2147483647) (hl : K.length ≤ 1048576) : Script (mkL K m) K.length m ∧ U 0 0 K.length m (mkL K m) = keptR 0 K := by
  have hf := h.fit h0 (i := 0)
  rw [Int.zero_add] at hf
  have := fit_right hf (Int.le_refl _) (Int.le_refl _) (by omega) hm
  exact ⟨⟨by omega, h0, this.1⟩, this.2⟩
theorem kept_sm {K : List Int} {m : Int} (h : Vk 0 m K) (h0 : 0 ≤ m) (hm : m ≤ 2147483647) (hl : K.length ≤ 1048576) : ∀ r ∈ keptR 0 K ++ [⟨K.length, m, 0⟩], sm r := by
  intro r hr
  rw [List.mem_append, List.mem_singleton] at hr
  rcases hr with hr | rfl
  · rw [mem_keptR] at hr
    obtain ⟨h1, h2, h3, h4⟩ := hr
    have hlt := (List.getElem?_eq_some_iff.1 h3).1
    have hz := List.mem_of_getElem? h3
    have := h.each (Int.le_refl _) _ hz
    have := h.lt _ hz
    unfold sm
    omega
  · unfold sm
    dsimp only
    omega
theorem kept_len (i : Int) (K : List Int) : (keptR i K).length ≤ K.length := by
  induction K generalizing i with
  | nil => simp [keptR]
  | cons z t ih =>
    have := ih (i + 1)
    rw [keptR]
    split <;> simp <;> omega

end Go.Proofs.YtjclgflbhdbaaaaDoor

/- The table of lengths: row, at, measure, walked. -/
namespace Go.Proofs.YtjclgflbhdbaaaaDoor
open Go.RowKit

/-- a table as a value -/
def tabV (W g N : Nat) : Value := .agg #[.int .i64 (W : Int), .slice (some ⟨g, 0, none⟩) N N]
end Go.Proofs.YtjclgflbhdbaaaaDoor

/- The table of lengths is filled: measure, walked. -/
namespace Go.Proofs.YtjclgflbhdbaaaaDoor
open Go.RowKit

theorem idx_inj {W i j i' j' : Nat} (hj : j < W) (hj' : j' < W) (h : i * W + j = i' * W + j') : i = i' ∧ j = j' := by
  have h1 : (i * W + j) / W = i := by rw [Nat.mul_comm, Nat.mul_add_div (by omega), Nat.div_eq_of_lt hj, Nat.add_zero]
  have h2 : (i' * W + j') / W = i' := by rw [Nat.mul_comm, Nat.mul_add_div (by omega), Nat.div_eq_of_lt hj', Nat.add_zero]
  have h3 : i = i' := by rw [← h1, ← h2, h]
  subst h3
  exact ⟨rfl, by omega⟩
theorem idx_lt {W i j n : Nat} (hj : j < W) (hi : i ≤ n) : i * W + j < (n + 1) * W := by
  have : i * W ≤ n * W := Nat.mul_le_mul_right _ hi
  rw [Nat.succ_mul]
  omega
/-- which lengths stand in the table: those of the rows below row k, and of row k from place c on -/
def Done (x y : List Int) (k c : Nat) (Y : List Value) : Prop := ∀ i j, i ≤ x.length → j ≤ y.length → (k < i ∨ (i = k ∧ c ≤ j) ∨ j = y.length) → Y[i * (y.length + 1) + j]? = some (.int .i16 ((ln x y i j : Nat) : Int))
theorem Done.start (x y : List Int) (N : Nat) (hN : N = (x.length + 1) * (y.length + 1)) : Done x y x.length 0 (List.replicate N (.int .i16 0)) := by
  intro i j hi hj h
  rw [ln_end x y i j (by omega), List.getElem?_replicate, if_pos (by rw [hN]; exact idx_lt (by omega) hi)]
  rfl
theorem Done.next {x y : List Int} {i : Nat} {Y : List Value} (h : Done x y (i + 1) 0 Y) : Done x y i y.length Y := by
  intro i' j' hi hj hc
  exact h i' j' hi hj (by omega)
theorem Done.set {x y : List Int} {i j : Nat} {Y : List Value} (h : Done x y i (j + 1) Y) (hi : i ≤ x.length) (hj : j < y.length) (hY : Y.length = (x.length + 1) * (y.length + 1)) (p : Nat) (hp : p = i * (y.length + 1) + j) (v : Int) (hv : v = ((ln x y i j : Nat) : Int)) : Done x y i j (Y.set p (.int .i16 v)) := by
  intro i' j' hi' hj' hc
  subst hp hv
  by_cases e : i' * (y.length + 1) + j' = i * (y.length + 1) + j
  · obtain ⟨rfl, rfl⟩ := idx_inj (by omega) (by omega) e
    rw [List.getElem?_set_self]
    rw [hY]
    exact idx_lt (by omega) hi
  · rw [List.getElem?_set_ne (fun h => e h.symm)]
    refine h i' j' hi' hj' ?_
    rcases hc with hc | ⟨rfl, hc⟩ | hc
    · exact .inl hc
    · exact .inr (.inl ⟨rfl, by by_cases q : j' = j; · subst q; exact absurd rfl e
                                · omega⟩)
    · exact .inr (.inr hc)
theorem made16 (N : Nat) : (madeCells #[.int .i16 0] N).toList = List.replicate N (.int .i16 0) := by
  apply List.ext_getElem
  · simp [madeCells]
  · intro i h1 h2
    simp [madeCells, Nat.mod_one]

theorem set_fst {W : World} {b : Nat} {t : TypeId} {a0 a1 : Value} (h : W.heap[b]? = some (Obj.cells #[a0, a1] t (0, 0))) (v : Value) : (W.setCell ⟨b, 0, none⟩ v).heap[b]? = some (Obj.cells #[v, a1] t (0, 0)) := by
  obtain ⟨hlt, hk⟩ := Array.getElem?_eq_some_iff.1 h
  show (W.heap.modify b _)[b]? = _
  rw [Array.getElem?_eq_getElem (by rw [Array.size_modify]; exact hlt), Array.getElem_modify_self, hk]
  rfl
theorem set_snd {W : World} {b : Nat} {t : TypeId} {a0 a1 : Value} (h : W.heap[b]? = some (Obj.cells #[a0, a1] t (0, 0))) (v : Value) : (W.setCell ⟨b, 1, none⟩ v).heap[b]? = some (Obj.cells #[a0, v] t (0, 0)) := by
  obtain ⟨hlt, hk⟩ := Array.getElem?_eq_some_iff.1 h
  show (W.heap.modify b _)[b]? = _
  rw [Array.getElem?_eq_getElem (by rw [Array.size_modify]; exact hlt), Array.getElem_modify_self, hk]
  rfl
theorem grownBy_set1 (W : World) (b : Nat) (v : Value) : W.grownBy (W.setCell ⟨b, 1, none⟩ v) (some b) :=
  ⟨rfl, rfl, rfl, by show W.heap.size ≤ (W.heap.modify b _).size; simp, fun i hi hne => by
    show (W.heap.modify b _)[i]? = _
    rw [Array.getElem?_modify, if_neg (fun e => hne (by rw [e]))]⟩
end Go.Proofs.YtjclgflbhdbaaaaDoor

/- How much is the same at the front; Length: front, tooLong, Length, walked. -/
namespace Go.Proofs.YtjclgflbhdbaaaaDoor
open Go.RowKit

end Go.Proofs.YtjclgflbhdbaaaaDoor

/- Length, walked. -/
namespace Go.Proofs.YtjclgflbhdbaaaaDoor
open Go.RowKit
attribute [local simp] low_drew

theorem low_refl (W : World) : Low W W := Below.refl _ _
theorem Low.then {W w w' : World} (h : Low W w) (hb : Below w.heap.size w w') : Low W w' := Below.trans h (hb.mono (Below.size h))
end Go.Proofs.YtjclgflbhdbaaaaDoor

/- A row of one number, again and again: bits.Mul, slices.Repeat, walked. -/
namespace Go.Proofs.YtjclgflbhdbaaaaDoor
open Go.RowKit
attribute [local simp] low_drew

theorem madeI (N : Nat) : madeCells #[.int .i64 0] N = (List.replicate N (Value.int .i64 0)).toArray := by
  apply Array.toList_inj.1
  apply List.ext_getElem
  · simp [madeCells]
  · intro i h1 h2
    simp [madeCells, Nat.mod_one]
theorem size1 : (Tryd.prog.info? 3).map (·.size) = some 1 := by kernel_rfl
/-- a row whose first k cells are -1 -/
def Ones (cur : List Value) (N k : Nat) : Prop := cur.length = N ∧ cur.take k = icells (List.replicate k (-1))
theorem Ones.more {cur : List Value} {N k d : Nat} (h : Ones cur N k) (hk : k + d ≤ N) : Ones (splice cur k (icells (List.replicate d (-1)))) N (k + d) := by
  refine ⟨?_, ?_⟩
  · rw [length_splice _ _ _ (by rw [icells_length, h.1]; simpa using hk), h.1]
  · have h1 : (cur.take k).length = k := by rw [List.length_take, h.1]; omega
    rw [splice, ← List.append_assoc, List.take_left' (by rw [List.length_append, h1, icells_length, List.length_replicate]), h.2, ← icells_append, List.replicate_append_replicate]
theorem Ones.cell {cur : List Value} {N k : Nat} (h : Ones cur N k) (j : Nat) (hj : j < k) : cur[j]? = some (.int .i64 (-1)) := by
  have : (cur.take k)[j]? = some (.int .i64 (-1)) := by rw [h.2]; simp [icells, hj]
  rw [List.getElem?_take] at this
  simpa [hj] using this

end Go.Proofs.YtjclgflbhdbaaaaDoor

/- What the least edit script keeps: kept, walked. -/
namespace Go.Proofs.YtjclgflbhdbaaaaDoor
open Go.RowKit

/-- how far what is kept is written down: the first a members, b of y's behind them; X and Y are left -/
def Pt (K Z : List Int) (n a : Nat) (b : Int) (X Y : List Int) : Prop := ∃ P : List Int, P.length = a ∧ a ≤ n ∧ Z = P ++ List.replicate (n - a) (-1) ∧ P ++ kp b X Y = K
theorem Pt.start (x y : List Int) : Pt (kp 0 x y) (List.replicate x.length (-1)) x.length 0 0 x y := ⟨[], rfl, Nat.zero_le _, by simp, by simp⟩
theorem Pt.len {K Z : List Int} {n a : Nat} {b : Int} {X Y : List Int} (h : Pt K Z n a b X Y) : Z.length = n := by
  obtain ⟨P, h1, h2, h3, _⟩ := h
  rw [h3, List.length_append, h1, List.length_replicate]
  omega
theorem Pt.pair {K Z : List Int} {n a : Nat} {b : Int} {X Y X' Y' : List Int} (h : Pt K Z n a b X Y) (hn : a < n) (hk : kp b X Y = b :: kp (b + 1) X' Y') : Pt K (Z.set a b) n (a + 1) (b + 1) X' Y' := by
  obtain ⟨P, h1, h2, h3, h4⟩ := h
  refine ⟨P ++ [b], by simp [h1], hn, ?_, by rw [← h4, hk]; simp⟩
  rw [h3, show n - a = (n - (a + 1)) + 1 by omega, List.replicate_succ, List.set_append_right _ _ (by omega), h1]
  simp
theorem Pt.out {K Z : List Int} {n a : Nat} {b : Int} {X Y X' : List Int} (h : Pt K Z n a b X Y) (hn : a < n) (hk : kp b X Y = -1 :: kp b X' Y) : Pt K Z n (a + 1) b X' Y := by
  obtain ⟨P, h1, h2, h3, h4⟩ := h
  refine ⟨P ++ [-1], by simp [h1], hn, ?_, by rw [← h4, hk]; simp⟩
  rw [h3, show n - a = (n - (a + 1)) + 1 by omega, List.replicate_succ]
  simp
theorem Pt.skip {K Z : List Int} {n a : Nat} {b : Int} {X Y Y' : List Int} (h : Pt K Z n a b X Y) (hk : kp b X Y = kp (b + 1) X Y') : Pt K Z n a (b + 1) X Y' := by
  obtain ⟨P, h1, h2, h3, h4⟩ := h
  exact ⟨P, h1, h2, h3, by rw [← h4, hk]⟩
theorem Pt.done {K Z : List Int} {n a : Nat} {b : Int} {X Y : List Int} (h : Pt K Z n a b X Y) (hX : X.length = n - a) (he : X = [] ∨ Y = []) : Z = K := by
  obtain ⟨P, h1, h2, h3, h4⟩ := h
  rcases he with rfl | rfl
  · rw [kp_nil, List.append_nil] at h4
    simp at hX
    rw [h3, ← hX, ← h4]
    simp
  · rw [kp_none, hX] at h4
    rw [h3, h4]

section
variable {w : World} {g gt bx n M N : Nat} {Z : List Int} {T : List Value} {wr : World}
theorem own_at {base : Nat} {e : TypeId} {s : Nat} {g n c : Nat} {xs : List Value} (h : wr.ownsRow base e s (.slice (some ⟨g, 0, none⟩) n c) n xs) : base ≤ g ∧ ∃ cur, wr.heap[g]? = some (.cells cur e (0, 0)) := by
  rcases h.2 with ⟨h, _⟩ | ⟨g', cap, cur, h, hb, hc, _⟩
  · cases h
  · cases h
    exact ⟨hb, cur, hc⟩
end
end Go.Proofs.YtjclgflbhdbaaaaDoor

/- What the least edit script keeps: kept, walked (the walk itself). -/
namespace Go.Proofs.YtjclgflbhdbaaaaDoor
open Go.RowKit
end Go.Proofs.YtjclgflbhdbaaaaDoor

/- Diff and the law's own test works, walked. -/
namespace Go.Proofs.YtjclgflbhdbaaaaDoor
open Go.RowKit

theorem two_rows (W : World) (cs ds : Array Value) (n m g : Nat) (hg : W.heap.size + 1 = g) (X Y : List Int) (hX : cs.toList = icells X) (hY : ds.toList = icells Y) (hn : n = X.length) (hm : m = Y.length) :
    HI ((W.alloc (.cells cs 3)).alloc (.cells ds 3)) (.slice (some ⟨W.heap.size, 0, none⟩) n n) X ∧ HI ((W.alloc (.cells cs 3)).alloc (.cells ds 3)) (.slice (some ⟨g, 0, none⟩) m m) Y ∧ Below W.heap.size W ((W.alloc (.cells cs 3)).alloc (.cells ds 3)) := by
  subst hn hm
  refine ⟨?_, ?_, ((Below.refl _ W).alloc (Nat.le_refl _) _).alloc (by simp) _⟩
  · have h : HI (W.alloc (.cells cs 3)) (.slice (some ⟨W.heap.size, 0, none⟩) X.length X.length) X := by
      have := new_holds W cs 3 X.length X.length (Nat.le_refl _)
      rw [hX] at this
      exact this
    exact HI.keep h ((Below.refl _ _).alloc (Nat.le_refl _) _) (Nat.le_refl _)
  · have := new_holds_at (W.alloc (.cells cs 3)) g (by rw [World.size_alloc]; exact hg) ds 3 Y.length Y.length (Nat.le_refl _)
    rw [hY] at this
    exact this

end Go.Proofs.YtjclgflbhdbaaaaDoor

/- A script that is made of what is kept keeps it: plain. -/
namespace Go.Proofs.YtjclgflbhdbaaaaDoor

theorem Right.many {f : Bool} {a b n m : Int} {l : List Ch} (h : Right f a b n m l) : (l.length : Int) ≤ (n - a) + (m - b) := by
  induction l generalizing f a b with
  | nil => have := h.le; simp; omega
  | cons c l ih =>
    obtain ⟨⟨h1, h2, h3, h4⟩, h5⟩ := h
    rw [numB_iff] at h1
    have := ih h5
    simp only [List.length_cons]
    omega
/-- a script that is made of what is kept keeps it -/
theorem keep_mk {K : List Int} {m : Int} (h : Vk 0 m K) (h0 : 0 ≤ m) (hm : m ≤ 2147483647) (hl : K.length ≤ 1048576) : Script (mkL K m) K.length m ∧ keepL (mkL K m) K.length m = K ∧ ((mkL K m).length : Int) ≤ K.length + m := by
  obtain ⟨hS, hU⟩ := mk_script h h0 hm hl
  refine ⟨hS, ?_, ?_⟩
  · have e : keepL (mkL K m) K.length m = kr 0 0 K.length m (mkL K m) := rfl
    rw [e]
    refine kept_inj (i := 0) ?_ ?_
    · rw [kr_length hS.2.2]; omega
    · rw [kr_kept hS.2.2 (Int.le_refl _), hU]
  · have := hS.2.2.many
    omega
end Go.Proofs.YtjclgflbhdbaaaaDoor

/- Pieces of two rows of classes, and what of them is kept, whatever an engine does with the middle: plain. -/
namespace Go.Proofs.YtjclgflbhdbaaaaDoor

/-- x from a up to b -/
def sub (x : List Int) (a b : Nat) : List Int := (x.drop a).take (b - a)
theorem sub_length (x : List Int) (a b : Nat) (hb : b ≤ x.length) : (sub x a b).length = b - a := by
  unfold sub
  rw [List.length_take, List.length_drop]
  omega
/-- how many are the same at the front of two pieces -/
def tfN (x y : List Int) : Nat → Nat → Nat → Nat
  | 0, _, _ => 0
  | n + 1, a, c => if x[a]? = y[c]? then tfN x y n (a + 1) (c + 1) + 1 else 0
def tf (x y : List Int) (a b c d : Nat) : Nat := tfN x y (min (b - a) (d - c)) a c
theorem tf_eq (x y : List Int) (a b c d : Nat) : tf x y a b c d = if a < b ∧ c < d ∧ x[a]? = y[c]? then tf x y (a + 1) b (c + 1) d + 1 else 0 := by
  unfold tf
  by_cases h : a < b ∧ c < d
  · rw [show min (b - a) (d - c) = min (b - (a + 1)) (d - (c + 1)) + 1 by omega, tfN]
    by_cases e : x[a]? = y[c]?
    · rw [if_pos e, if_pos ⟨h.1, h.2, e⟩]
    · rw [if_neg e, if_neg (fun q => e q.2.2)]
  · rw [show min (b - a) (d - c) = 0 by omega, tfN, if_neg (fun q => h ⟨q.1, q.2.1⟩)]
/-- at the end -/
def tb (x y : List Int) (a b c d : Nat) : Nat := if a < b ∧ c < d ∧ x[b - 1]? = y[d - 1]? then tb x y a (b - 1) c (d - 1) + 1 else 0
theorem tf_le (x y : List Int) (a b c d : Nat) : tf x y a b c d ≤ b - a ∧ tf x y a b c d ≤ d - c := by
  induction h : b - a generalizing a c with
  | zero => rw [tf_eq, if_neg (by omega)]; omega
  | succ n ih =>
    rw [tf_eq]
    split
    · have := ih (a + 1) (c + 1) (by omega)
      omega
    · omega
theorem tb_le (x y : List Int) (a b c d : Nat) : tb x y a b c d ≤ b - a ∧ tb x y a b c d ≤ d - c := by
  induction h : b - a generalizing b d with
  | zero => rw [tb, if_neg (by omega)]; omega
  | succ n ih =>
    rw [tb]
    split
    · have := ih (b - 1) (d - 1) (by omega)
      omega
    · omega
/-- the pairs at the front, at the end -/
def fp (a c : Nat) : Nat → List Pr
  | 0 => []
  | k + 1 => ⟨a, c⟩ :: fp (a + 1) (c + 1) k
def bp (b d : Nat) : Nat → List Pr
  | 0 => []
  | k + 1 => ⟨(b - 1 : Nat), (d - 1 : Nat)⟩ :: bp (b - 1) (d - 1) k
/-- within these bounds -/
def Wn (a b c d : Nat) (p : Pr) : Prop := (a : Int) ≤ p.X ∧ p.X < b ∧ (c : Int) ≤ p.Y ∧ p.Y < d
theorem fp_wn (a c k : Nat) : ∀ p ∈ fp a c k, Wn a (a + k) c (c + k) p := by
  induction k generalizing a c with
  | zero => intro p hp; simp [fp] at hp
  | succ k ih =>
    intro p hp
    rw [fp] at hp
    rcases List.mem_cons.1 hp with rfl | hp
    · exact ⟨by simp, by simp; omega, by simp, by simp; omega⟩
    · have := ih (a + 1) (c + 1) p hp
      unfold Wn at this ⊢
      omega
theorem bp_wn (b d k : Nat) (hb : k ≤ b) (hd : k ≤ d) : ∀ p ∈ bp b d k, Wn (b - k) b (d - k) d p := by
  induction k generalizing b d with
  | zero => intro p hp; simp [bp] at hp
  | succ k ih =>
    intro p hp
    rw [bp] at hp
    rcases List.mem_cons.1 hp with rfl | hp
    · unfold Wn
      dsimp only
      omega
    · have := ih (b - 1) (d - 1) (by omega) (by omega) p hp
      unfold Wn at this ⊢
      omega
/-- what the least script keeps, from place a on, c further on -/
def lp (a c : Int) : List Int → List Pr
  | [] => []
  | j :: K => (if j = -1 then [] else [⟨a, c + j⟩]) ++ lp (a + 1) c K
/-- both ends, and the middle by N -/
def ends (x y : List Int) (N : Nat → Nat → Nat → Nat → List Pr) (a b c d : Nat) : List Pr :=
  fp a c (tf x y a b c d) ++ (bp b d (tb x y (a + tf x y a b c d) b (c + tf x y a b c d) d) ++
    (if a + tf x y a b c d < b - tb x y (a + tf x y a b c d) b (c + tf x y a b c d) d ∧ c + tf x y a b c d < d - tb x y (a + tf x y a b c d) b (c + tf x y a b c d) d then
      N (a + tf x y a b c d) (b - tb x y (a + tf x y a b c d) b (c + tf x y a b c d) d) (c + tf x y a b c d) (d - tb x y (a + tf x y a b c d) b (c + tf x y a b c d) d)
    else []))
/-- what is kept of two pieces, by an engine M -/
def pcs (M : (Nat → Nat → Nat → Nat → List Pr) → Nat → Nat → Nat → Nat → List Pr) (x y : List Int) : Nat → Nat → Nat → Nat → Nat → List Pr
  | 0, _, _, _, _ => []
  | f + 1, a, b, c, d => ends x y (M (pcs M x y f)) a b c d
/-- the pairs are written down -/
def wrk (K : List Int) (l : List Pr) : List Int := l.foldl (fun K p => K.set p.X.toNat p.Y) K
theorem wrk_append (K : List Int) (a b : List Pr) : wrk K (a ++ b) = wrk (wrk K a) b := by simp [wrk]
theorem wrk_cons (K : List Int) (p : Pr) (b : List Pr) : wrk K (p :: b) = wrk (K.set p.X.toNat p.Y) b := rfl
theorem wrk_length (K : List Int) (l : List Pr) : (wrk K l).length = K.length := by
  induction l generalizing K with
  | nil => rfl
  | cons p l ih => rw [wrk_cons, ih, List.length_set]
/-- a pair elsewhere may be written first -/
theorem wrk_comm (K : List Int) (l : List Pr) (u : Nat) (v : Int) (h : ∀ p ∈ l, p.X.toNat ≠ u) : wrk (K.set u v) l = (wrk K l).set u v := by
  induction l generalizing K with
  | nil => rfl
  | cons p l ih =>
    rw [wrk_cons, wrk_cons, List.set_comm _ _ (fun e => h p (List.mem_cons_self ..) e.symm), ih _ (fun q hq => h q (List.mem_cons_of_mem _ hq))]

theorem tf_same (x y : List Int) (a b c d : Nat) : ∀ i, i < tf x y a b c d → x[a + i]? = y[c + i]? := by
  induction h : b - a generalizing a c with
  | zero => intro i hi; rw [tf_eq, if_neg (by omega)] at hi; omega
  | succ n ih =>
    intro i hi
    rw [tf_eq] at hi
    split at hi
    · rename_i hh
      cases i with
      | zero => exact hh.2.2
      | succ i =>
        have := ih (a + 1) (c + 1) (by omega) i (by omega)
        rw [show a + (i + 1) = a + 1 + i by omega, show c + (i + 1) = c + 1 + i by omega]
        exact this
    · omega
theorem tb_same (x y : List Int) (a b c d : Nat) : ∀ i, i < tb x y a b c d → x[b - (i + 1)]? = y[d - (i + 1)]? := by
  induction h : b - a generalizing b d with
  | zero => intro i hi; rw [tb, if_neg (by omega)] at hi; omega
  | succ n ih =>
    intro i hi
    rw [tb] at hi
    split at hi
    · rename_i hh
      cases i with
      | zero => exact hh.2.2
      | succ i =>
        have := ih (b - 1) (d - 1) (by omega) i (by omega)
        rw [show b - (i + 1 + 1) = b - 1 - (i + 1) by omega, show d - (i + 1 + 1) = d - 1 - (i + 1) by omega]
        exact this
    · omega
/-- any two are the same, or one is above the other -/
def Ris (l : List Pr) : Prop := ∀ p ∈ l, ∀ q ∈ l, p = q ∨ ab q p ∨ ab p q
/-- within these bounds, rising, and of the same class -/
structure Okp (x y : List Int) (a b c d : Nat) (l : List Pr) : Prop where
  wn : ∀ p ∈ l, Wn a b c d p
  ris : Ris l
  eqs : ∀ p ∈ l, x[p.X.toNat]? = y[p.Y.toNat]?
section
variable {x y : List Int}
theorem Okp.nil (a b c d : Nat) : Okp x y a b c d [] := ⟨fun p hp => by simp at hp, fun p hp => by simp at hp, fun p hp => by simp at hp⟩
theorem Okp.mono {a b c d a' b' c' d' : Nat} {l : List Pr} (h : Okp x y a b c d l) (ha : a' ≤ a) (hb : b ≤ b') (hc : c' ≤ c) (hd : d ≤ d') : Okp x y a' b' c' d' l := ⟨fun p hp => by have := h.wn p hp; unfold Wn at this ⊢; omega, h.ris, h.eqs⟩
theorem Okp.one {a c : Nat} (h : x[a]? = y[c]?) : Okp x y a (a + 1) c (c + 1) [⟨a, c⟩] := ⟨fun p hp => by simp at hp; subst hp; unfold Wn; dsimp only; omega, fun p hp q hq => by simp at hp hq; subst hp; subst hq; exact .inl rfl, fun p hp => by simp at hp; subst hp; simpa using h⟩
theorem Okp.cat {a b c d a' b' c' d' A B C D : Nat} {l l' : List Pr} (h : Okp x y a b c d l) (h' : Okp x y a' b' c' d' l') (hs : (b ≤ a' ∧ d ≤ c') ∨ (b' ≤ a ∧ d' ≤ c)) (h1 : A ≤ a ∧ A ≤ a') (h2 : b ≤ B ∧ b' ≤ B) (h3 : C ≤ c ∧ C ≤ c') (h4 : d ≤ D ∧ d' ≤ D) : Okp x y A B C D (l ++ l') := by
  refine ⟨fun p hp => ?_, fun p hp q hq => ?_, fun p hp => ?_⟩
  · rcases List.mem_append.1 hp with hp | hp
    · exact (h.mono h1.1 h2.1 h3.1 h4.1).wn p hp
    · exact (h'.mono h1.2 h2.2 h3.2 h4.2).wn p hp
  · rcases List.mem_append.1 hp with hp | hp <;> rcases List.mem_append.1 hq with hq | hq
    · exact h.ris p hp q hq
    · have e1 := h.wn p hp
      have e2 := h'.wn q hq
      unfold Wn at e1 e2
      rcases hs with hs | hs
      · exact .inr (.inl ⟨by omega, by omega⟩)
      · exact .inr (.inr ⟨by omega, by omega⟩)
    · have e1 := h'.wn p hp
      have e2 := h.wn q hq
      unfold Wn at e1 e2
      rcases hs with hs | hs
      · exact .inr (.inr ⟨by omega, by omega⟩)
      · exact .inr (.inl ⟨by omega, by omega⟩)
    · exact h'.ris p hp q hq
  · rcases List.mem_append.1 hp with hp | hp
    · exact h.eqs p hp
    · exact h'.eqs p hp
theorem fp_ok (a c k : Nat) (h : ∀ i, i < k → x[a + i]? = y[c + i]?) : Okp x y a (a + k) c (c + k) (fp a c k) := by
  induction k generalizing a c with
  | zero => exact Okp.nil _ _ _ _
  | succ k ih => exact (Okp.one (h 0 (by omega))).cat (ih (a + 1) (c + 1) (fun i hi => by have := h (i + 1) (by omega); rw [show a + 1 + i = a + (i + 1) by omega, show c + 1 + i = c + (i + 1) by omega]; exact this)) (.inl ⟨by omega, by omega⟩) ⟨by omega, by omega⟩ ⟨by omega, by omega⟩ ⟨by omega, by omega⟩ ⟨by omega, by omega⟩
theorem bp_ok (b d k : Nat) (hb : k ≤ b) (hd : k ≤ d) (h : ∀ i, i < k → x[b - (i + 1)]? = y[d - (i + 1)]?) : Okp x y (b - k) b (d - k) d (bp b d k) := by
  induction k generalizing b d with
  | zero => exact Okp.nil _ _ _ _
  | succ k ih =>
    have h0 : Okp x y (b - 1) (b - 1 + 1) (d - 1) (d - 1 + 1) [⟨(b - 1 : Nat), (d - 1 : Nat)⟩] := Okp.one (by simpa using h 0 (by omega))
    exact h0.cat (ih (b - 1) (d - 1) (by omega) (by omega) (fun i hi => by have := h (i + 1) (by omega); rw [show b - 1 - (i + 1) = b - (i + 1 + 1) by omega, show d - 1 - (i + 1) = d - (i + 1 + 1) by omega]; exact this)) (.inr ⟨by omega, by omega⟩) ⟨by omega, by omega⟩ ⟨by omega, by omega⟩ ⟨by omega, by omega⟩ ⟨by omega, by omega⟩
theorem lp_ok (K : List Int) : ∀ (a c nx m : Nat), Vk nx m K → (∀ (i q : Nat), K[i]? = some (q : Int) → x[a + i]? = y[c + q]?) → Okp x y a (a + K.length) (c + nx) (c + m) (lp a c K) := by
  induction K with
  | nil => intro a c nx m _ _; exact Okp.nil _ _ _ _
  | cons z K ih =>
    intro a c nx m h hs
    rw [lp]
    simp only [List.length_cons]
    have hs' : ∀ (i q : Nat), K[i]? = some (q : Int) → x[a + 1 + i]? = y[c + q]? := fun i q hi => by
      have := hs (i + 1) q (by simpa using hi)
      rw [show a + 1 + i = a + (i + 1) by omega]
      exact this
    rcases h with ⟨hz, h⟩ | ⟨hz, h1, h2, h⟩
    · rw [if_pos hz, List.nil_append]
      exact (ih (a + 1) c nx m h hs').mono (by omega) (by omega) (by omega) (by omega)
    · rw [if_neg hz]
      obtain ⟨j, rfl⟩ : ∃ j : Nat, z = j := ⟨z.toNat, by omega⟩
      have e1 : Okp x y a (a + 1) (c + j) (c + j + 1) [⟨(a : Int), (c : Int) + (j : Int)⟩] := by simpa using Okp.one (x := x) (y := y) (a := a) (c := c + j) (by simpa using hs 0 j (by simp))
      exact e1.cat (ih (a + 1) c (j + 1) m (by simpa using h) hs') (.inl ⟨by omega, by omega⟩) ⟨by omega, by omega⟩ ⟨by omega, by omega⟩ ⟨by omega, by omega⟩ ⟨by omega, by omega⟩
end
theorem sub_at (x : List Int) (a b i : Nat) (hi : i < b - a) : (sub x a b)[i]? = x[a + i]? := by
  unfold sub
  rw [List.getElem?_take_of_lt hi, List.getElem?_drop]
theorem sub_some {x : List Int} {a b i : Nat} {z : Int} (h : (sub x a b)[i]? = some z) : i < b - a ∧ x[a + i]? = some z := by
  have h1 := (List.getElem?_eq_some_iff.1 h).1
  unfold sub at h1
  rw [List.length_take] at h1
  exact ⟨by omega, by rw [← sub_at x a b i (by omega)]; exact h⟩
/-- what the least script keeps of a middle -/
theorem least_ok (x y : List Int) (a b c d : Nat) (hab : a ≤ b) (hb : b ≤ x.length) (hcd : c ≤ d) (hd : d ≤ y.length) : Okp x y a b c d (lp a c (kp 0 (sub x a b) (sub y c d))) := by
  have h1 := lp_ok (x := x) (y := y) (kp 0 (sub x a b) (sub y c d)) a c 0 (d - c) (by
    have := kp_vk 0 (sub x a b) (sub y c d) (Int.le_refl _)
    rw [sub_length y _ _ (by omega), Int.zero_add] at this
    exact this) (fun i q hq => by
      obtain ⟨_, z, h1, h2⟩ := kp_same 0 _ _ (Int.le_refl _) i q hq (by omega)
      rw [show ((q : Int) - 0).toNat = q by omega] at h2
      rw [(sub_some h1).2, (sub_some h2).2])
  rw [kp_length, sub_length x _ _ (by omega)] at h1
  exact h1.mono (Nat.le_refl _) (by omega) (by omega) (by omega)
theorem ends_ok (x y : List Int) (N : Nat → Nat → Nat → Nat → List Pr) (a b c d : Nat) (hab : a ≤ b) (_ : b ≤ x.length) (hcd : c ≤ d) (_ : d ≤ y.length) (hN : ∀ a' b' c' d', a ≤ a' → a' < b' → b' ≤ b → c ≤ c' → c' < d' → d' ≤ d → Okp x y a' b' c' d' (N a' b' c' d')) : Okp x y a b c d (ends x y N a b c d) := by
  unfold ends
  have hk := tf_le x y a b c d
  have hks := tf_same x y a b c d
  generalize tf x y a b c d = k at hk hks ⊢
  have hm := tb_le x y (a + k) b (c + k) d
  have hms := tb_same x y (a + k) b (c + k) d
  generalize tb x y (a + k) b (c + k) d = m at hm hms ⊢
  have hmid : Okp x y (a + k) (b - m) (c + k) (d - m) (if a + k < b - m ∧ c + k < d - m then N (a + k) (b - m) (c + k) (d - m) else []) := by
    split
    · rename_i h
      exact hN _ _ _ _ (by omega) h.1 (by omega) (by omega) h.2 (by omega)
    · exact Okp.nil _ _ _ _
  have h1 := fp_ok (x := x) (y := y) a c k hks
  have h2 := bp_ok (x := x) (y := y) b d m (by omega) (by omega) hms
  exact h1.cat (h2.cat hmid (.inr ⟨by omega, by omega⟩) (A := a + k) (B := b) (C := c + k) (D := d) ⟨by omega, by omega⟩ ⟨by omega, by omega⟩ ⟨by omega, by omega⟩ ⟨by omega, by omega⟩) (.inl ⟨by omega, by omega⟩) ⟨by omega, by omega⟩ ⟨by omega, by omega⟩ ⟨by omega, by omega⟩ ⟨by omega, by omega⟩
/-- an engine that goes on with shorter pieces keeps what is right, if they do -/
def MOk (M : (Nat → Nat → Nat → Nat → List Pr) → Nat → Nat → Nat → Nat → List Pr) (x y : List Int) : Prop := ∀ (rec : Nat → Nat → Nat → Nat → List Pr) (a b c d : Nat), a < b → b ≤ x.length → c < d → d ≤ y.length → (∀ a' b' c' d', a' ≤ b' → b' ≤ x.length → c' ≤ d' → d' ≤ y.length → Okp x y a' b' c' d' (rec a' b' c' d')) → Okp x y a b c d (M rec a b c d)
theorem pcs_ok {M : (Nat → Nat → Nat → Nat → List Pr) → Nat → Nat → Nat → Nat → List Pr} {x y : List Int} (hM : MOk M x y) (f : Nat) : ∀ a b c d, a ≤ b → b ≤ x.length → c ≤ d → d ≤ y.length → Okp x y a b c d (pcs M x y f a b c d) := by
  induction f with
  | zero => intro a b c d _ _ _ _; exact Okp.nil _ _ _ _
  | succ f ih =>
    intro a b c d hab hb hcd hd
    rw [pcs]
    exact ends_ok x y _ a b c d hab hb hcd hd (fun a' b' c' d' _ h2 h3 _ h5 h6 => hM _ a' b' c' d' h2 (by omega) h5 (by omega) ih)

/-- what stands at a place behind the writing -/
theorem wrk_get (l : List Pr) : ∀ (K : List Int) (i : Nat) (z : Int), (wrk K l)[i]? = some z → K[i]? = some z ∨ ∃ p ∈ l, p.X.toNat = i ∧ p.Y = z := by
  induction l with
  | nil => intro K i z h; exact .inl h
  | cons p l ih =>
    intro K i z h
    rw [wrk_cons] at h
    rcases ih _ i z h with h | ⟨q, hq, h⟩
    · by_cases e : p.X.toNat = i
      · subst e
        by_cases hl : p.X.toNat < K.length
        · rw [List.getElem?_set_self hl] at h
          cases h
          exact .inr ⟨p, List.mem_cons_self .., rfl, rfl⟩
        · rw [List.getElem?_eq_none (by rw [List.length_set]; omega)] at h
          cases h
      · rw [List.getElem?_set_ne e] at h
        exact .inl h
    · exact .inr ⟨q, List.mem_cons_of_mem _ hq, h⟩
theorem vk_of (K : List Int) : ∀ (nx m : Int), (∀ z ∈ K, z = -1 ∨ (nx ≤ z ∧ z < m)) → K.Pairwise (fun z z' => z = -1 ∨ z' = -1 ∨ z < z') → Vk nx m K := by
  induction K with
  | nil => intro _ _ _ _; trivial
  | cons z K ih =>
    intro nx m h1 h2
    have h2' := List.pairwise_cons.1 h2
    by_cases hz : z = -1
    · exact .inl ⟨hz, ih nx m (fun y hy => h1 y (List.mem_cons_of_mem _ hy)) h2'.2⟩
    · have h3 := (h1 z (List.mem_cons_self ..)).resolve_left hz
      refine .inr ⟨hz, h3.1, h3.2, ih (z + 1) m (fun y hy => ?_) h2'.2⟩
      rcases h1 y (List.mem_cons_of_mem _ hy) with e | e
      · exact .inl e
      · rcases h2'.1 y hy with q | q | q
        · exact absurd q hz
        · exact .inl q
        · exact .inr ⟨by omega, e.2⟩
/-- what is written is a keeping -/
theorem wrk_vk {x y : List Int} (n m : Nat) (l : List Pr) (h : Okp x y 0 n 0 m l) : Vk 0 m (wrk (List.replicate n (-1)) l) := by
  have hget : ∀ (i : Nat) (z : Int), (wrk (List.replicate n (-1)) l)[i]? = some z → z = -1 ∨ ∃ p ∈ l, p.X = i ∧ p.Y = z := fun i z hz => by
    rcases wrk_get l _ i z hz with q | ⟨p, hp, q1, q2⟩
    · left
      rw [List.getElem?_replicate] at q
      split at q
      · cases q; rfl
      · cases q
    · have := h.wn p hp
      unfold Wn at this
      exact .inr ⟨p, hp, by omega, q2⟩
  refine vk_of _ 0 m (fun z hz => ?_) (List.pairwise_iff_getElem.2 fun i j hi hj hij => ?_)
  · obtain ⟨i, hi, e⟩ := List.getElem_of_mem hz
    rcases hget i z (by rw [List.getElem?_eq_getElem hi, e]) with q | ⟨p, hp, _, q2⟩
    · exact .inl q
    · have := h.wn p hp
      unfold Wn at this
      exact .inr ⟨by omega, by omega⟩
  · rcases hget i _ (List.getElem?_eq_getElem hi) with q | ⟨p, hp, p1, p2⟩
    · exact .inl q
    · rcases hget j _ (List.getElem?_eq_getElem hj) with q | ⟨q, hq, q1, q2⟩
      · exact .inr (.inl q)
      · refine .inr (.inr ?_)
        rw [← p2, ← q2]
        rcases h.ris p hp q hq with e | e | e
        · subst e
          omega
        · exact e.2
        · have := e.1
          omega

/-- what is written of pairs is found there -/
theorem wrk_has (l : List Pr) (n : Nat) (hr : Ris l) (hw : ∀ p ∈ l, 0 ≤ p.X ∧ p.X < n) : ∀ K : List Int, K.length = n → ∀ p ∈ l, (wrk K l)[p.X.toNat]? = some p.Y := by
  induction l with
  | nil => intro K _ p hp; simp at hp
  | cons q l ih =>
    intro K hK p hp
    rw [wrk_cons]
    have ih' := ih (fun a ha b hb => hr a (List.mem_cons_of_mem _ ha) b (List.mem_cons_of_mem _ hb)) (fun a ha => hw a (List.mem_cons_of_mem _ ha)) (K.set q.X.toNat q.Y) (by rw [List.length_set]; exact hK)
    by_cases h : p ∈ l
    · exact ih' p h
    · have e : p = q := (List.mem_cons.1 hp).resolve_right h
      subst e
      have hb := hw p (List.mem_cons_self ..)
      by_cases hx : ∃ r ∈ l, r.X.toNat = p.X.toNat
      · obtain ⟨r, h1, h2⟩ := hx
        have hrb := hw r (List.mem_cons_of_mem _ h1)
        rcases hr p (List.mem_cons_self ..) r (List.mem_cons_of_mem _ h1) with e | e | e
        · subst e; exact ih' p h1
        · have := e.1; omega
        · have := e.1; omega
      · rw [wrk_comm K l _ _ (fun r h1 h2 => hx ⟨r, h1, h2⟩), List.getElem?_set_self (by rw [wrk_length]; omega)]
/-- what both texts keep: all that the laws ask -/
theorem hon_le (K : List Int) : ∀ (x y : List Int) (nx : Nat), Vk nx y.length K → K.length = x.length → (∀ (i q : Nat), K[i]? = some (q : Int) → x[i]? = y[q]?) → prs K ≤ lc x (y.drop nx) := by
  induction K with
  | nil => intro x y nx _ _ _; simp [prs]
  | cons z K ih =>
    intro x y nx hV hl hs
    cases x with
    | nil => simp at hl
    | cons e x =>
      have hs' : ∀ (i q : Nat), K[i]? = some (q : Int) → x[i]? = y[q]? := fun i q hi => by simpa using hs (i + 1) q (by simpa using hi)
      rcases hV with ⟨hz, h⟩ | ⟨hz, h1, h2, h⟩
      · subst hz
        have := ih x y nx h (by simpa using hl) hs'
        have h2 := lc_mono (List.sublist_cons_self e x) (List.Sublist.refl (y.drop nx))
        have h3 : prs (-1 :: K) = prs K := by simp [prs]
        omega
      · obtain ⟨q, rfl⟩ : ∃ j : Nat, z = j := ⟨z.toNat, by omega⟩
        have hq : q < y.length := by omega
        have h0 := hs 0 q (by simp)
        rw [List.getElem?_eq_getElem hq] at h0
        simp at h0
        have := ih x y (q + 1) (by simpa using h) (by simpa using hl) hs'
        have e2 : y.drop q = e :: y.drop (q + 1) := by rw [List.drop_eq_getElem_cons hq, h0]
        have h4 : lc (e :: x) (y.drop q) = lc x (y.drop (q + 1)) + 1 := by rw [e2, lc_ahead]
        have h5 : (y.drop q).Sublist (y.drop nx) := by
          rw [show q = nx + (q - nx) by omega, ← List.drop_drop]
          exact List.drop_sublist _ _
        have h6 := lc_mono (List.Sublist.refl (e :: x)) h5
        have h7 : prs ((q : Int) :: K) = prs K + 1 := by simp [prs]
        omega
theorem mk_id (n : Nat) : mkL ((List.range n).map fun (j : Nat) => (0 : Int) + (j : Int)) n = [] := by
  unfold mkL
  rw [keptR_run 0 0 (Int.le_refl _)]
  have := betw_un 0 0 n [⟨(n : Int), (n : Int), 0⟩]
  simp at this ⊢
  first | (rw [this]; simp [betw]) | simpa [betw] using this
/-- no changes: the same texts -/
theorem nil_same {K x y : List Int} (hV : Vk 0 y.length K) (hl : K.length = x.length) (hs : ∀ (i q : Nat), K[i]? = some (q : Int) → x[i]? = y[q]?) (hx : x.length ≤ 4096) (hy : y.length ≤ 4096) (h : mkL K y.length = []) : x = y := by
  obtain ⟨⟨_, _, hS⟩, hU⟩ := mk_script hV (by omega) (by omega) (by rw [hl]; omega)
  rw [h] at hS hU
  rw [U_nil] at hU
  have hnm : x.length = y.length := by
    have h1 := hS.2.2
    rw [hl] at h1
    omega
  apply List.ext_getElem? 
  intro i
  by_cases hi : i < x.length
  · have hm : (⟨(i : Int), (i : Int), 1⟩ : Rn) ∈ keptR 0 K := by
      rw [← hU, mem_un]
      rw [hl]
      refine ⟨rfl, ?_, ?_, ?_⟩ <;> dsimp only <;> omega
    rw [mem_keptR] at hm
    obtain ⟨_, _, h3, _⟩ := hm
    dsimp only at h3
    rw [show ((i : Int) - 0).toNat = i by omega] at h3
    exact hs i i h3
  · rw [List.getElem?_eq_none (by omega), List.getElem?_eq_none (by omega)]
/-- what is kept at the front: the first change stands behind it -/
theorem front_le {K : List Int} {m : Nat} (hV : Vk 0 m K) (hl : K.length ≤ 4096) (hm : m ≤ 4096) {c : Ch} {L : List Ch} (h : mkL K m = c :: L) (k : Nat) (hk : ∀ i, i < k → K[i]? = some (i : Int)) : (k : Int) ≤ c.A := by
  obtain ⟨hS, hkm, _⟩ := keep_mk hV (by omega) (by omega) (by omega)
  rw [h] at hS hkm
  have hR := hS.2.2
  obtain ⟨⟨h1, h2, h3, h4⟩, h5⟩ := hR
  rw [numB_iff] at h1
  refine Int.not_lt.1 fun hlt => ?_
  have hA := hk c.A.toNat (by omega)
  have e : keepL (c :: L) K.length m = kr 0 0 K.length m (c :: L) := rfl
  rw [e, kr_cons] at hkm
  by_cases hAN : 0 < c.AN
  · rw [← hkm, List.getElem?_append_left (by simp; omega), List.getElem?_append_right (by simp)] at hA
    simp [List.getElem?_replicate] at hA
    omega
  · have hrest : (kr (c.A + c.AN) (c.B + c.BN) K.length m L)[0]? = some c.A := by
      rw [← hkm, List.getElem?_append_right (by simp; omega)] at hA
      simp at hA
      rw [hA]
      congr 1
      omega
    have hmem : (⟨c.A + c.AN, c.A, 1⟩ : Rn) ∈ keptR (c.A + c.AN) (kr (c.A + c.AN) (c.B + c.BN) K.length m L) := by
      rw [mem_keptR]
      refine ⟨rfl, Int.le_refl _, ?_, by dsimp only; omega⟩
      dsimp only
      rw [show (c.A + c.AN - (c.A + c.AN)).toNat = 0 by omega]
      exact hrest
    rw [kr_kept h5 (by omega)] at hmem
    have := h5.bounds _ hmem
    dsimp only at this
    omega
/-- all that is written of a right list of pairs -/
structure Kpt (x y K : List Int) : Prop where
  vk : Vk 0 y.length K
  len : K.length = x.length
  eqs : ∀ (i q : Nat), K[i]? = some (q : Int) → x[i]? = y[q]?
theorem Okp.kpt {x y : List Int} {l : List Pr} (h : Okp x y 0 x.length 0 y.length l) : Kpt x y (wrk (List.replicate x.length (-1)) l) := by
  refine ⟨wrk_vk _ _ _ h, by rw [wrk_length]; simp, fun i q hq => ?_⟩
  rcases wrk_get l _ i q hq with e | ⟨p, hp, e1, e2⟩
  · rw [List.getElem?_replicate] at e
    split at e
    · simp at e
    · cases e
  · have h1 := h.eqs p hp
    rw [e1, e2] at h1
    simpa using h1
theorem Okp.at {x y : List Int} {l : List Pr} (h : Okp x y 0 x.length 0 y.length l) {p : Pr} (hp : p ∈ l) : (wrk (List.replicate x.length (-1)) l)[p.X.toNat]? = some p.Y :=
  wrk_has l x.length h.ris (fun q hq => by have := h.wn q hq; unfold Wn at this; omega) _ (by simp) p hp
theorem mem_fp {a c k : Nat} {p : Pr} : p ∈ fp a c k ↔ ∃ i, i < k ∧ p = ⟨(a + i : Nat), (c + i : Nat)⟩ := by
  induction k generalizing a c with
  | zero => simp [fp]
  | succ k ih =>
    rw [fp, List.mem_cons, ih]
    constructor
    · rintro (rfl | ⟨i, hi, rfl⟩)
      · exact ⟨0, by omega, by simp⟩
      · exact ⟨i + 1, by omega, by rw [show a + 1 + i = a + (i + 1) by omega, show c + 1 + i = c + (i + 1) by omega]⟩
    · rintro ⟨i, hi, rfl⟩
      cases i with
      | zero => left; simp
      | succ i => exact .inr ⟨i, by omega, by rw [show a + 1 + i = a + (i + 1) by omega, show c + 1 + i = c + (i + 1) by omega]⟩
theorem tf_all (x : List Int) (a b : Nat) : tf x x a b a b = b - a := by
  induction h : b - a generalizing a with
  | zero => rw [tf_eq, if_neg (by omega)]
  | succ n ih => rw [tf_eq, if_pos ⟨by omega, by omega, rfl⟩, ih (a + 1) (by omega)]
end Go.Proofs.YtjclgflbhdbaaaaDoor

/- Pieces of slices of numbers, as values and as what they hold. -/
namespace Go.Proofs.YtjclgflbhdbaaaaDoor
open Go.RowKit

theorem cell_low {u u' : World} (h : Below u.heap.size u u') {a : Addr} {v : Value} (hc : u.cell? a = some v) : u'.cell? a = some v := by
  rw [World.cell?_of_block (w := u) (h.block _ (World.block_lt_of_cell? u _ hc))]
  exact hc
theorem addr_zero (ad : Addr) : ad.add 0 = ad := by unfold Addr.add; split <;> simp_all
/-- x[k:], x[:k] of a slice of numbers, as values -/
def slF (ao : Option Addr) (cap k : Nat) : Option Addr := if cap = k then ao else ao.map (·.add k)
theorem hold_cap {w : World} {ao : Option Addr} {n c : Nat} {xs : List Value} (h : Holds w (.slice ao n c) n xs) : n ≤ c := by
  rcases h with ⟨h, h0, _⟩ | ⟨ad, c', h, h3, _⟩
  · omega
  · cases h; exact h3
theorem hold_from {w : World} {ao : Option Addr} {n c k : Nat} {L : List Int} (h : Holds w (.slice ao n c) n (icells L)) (hl : L.length = n) (hk : k ≤ n) : Holds w (.slice (slF ao c k) (n - k) (c - k)) (n - k) (icells (L.drop k)) := by
  have hnc := hold_cap h
  rcases h with ⟨h, h0, h4⟩ | ⟨ad, c', h, h3, hc⟩
  · cases h
    have : L = [] := by simpa [icells] using h4
    subst this
    have : k = 0 := by omega
    subst this
    exact .inl ⟨by simp [slF], by simp, by simp [icells]⟩
  · cases h
    refine .inr ⟨if c = k then ad else ad.add k, c - k, by unfold slF; split <;> simp, by omega, fun j v hj => ?_⟩
    have hj' : (icells L)[k + j]? = some v := by
      simp only [icells, List.map_drop, List.getElem?_drop] at hj ⊢
      exact hj
    have hlt := (List.getElem?_eq_some_iff.1 hj').1
    rw [icells_length] at hlt
    rw [if_neg (by omega)]
    have h0 := hc 0 _ (List.getElem?_eq_getElem (by rw [icells_length]; omega))
    obtain ⟨b, off, rfl⟩ := addr_of h0
    have := hc _ _ hj'
    rw [add_none] at this
    rw [add_none, add_none, Nat.add_assoc]
    exact this
theorem hold_to {w : World} {ao : Option Addr} {n c k : Nat} {L : List Int} (h : Holds w (.slice ao n c) n (icells L)) (hl : L.length = n) (hk : k ≤ n) : Holds w (.slice ao k c) k (icells (L.take k)) := by
  have hnc := hold_cap h
  rcases h with ⟨h, h0, h4⟩ | ⟨ad, c', h, h3, hc⟩
  · cases h
    have : L = [] := by simpa [icells] using h4
    subst this
    have : k = 0 := by omega
    subst this
    exact .inl ⟨by simp, by simp, by simp [icells]⟩
  · cases h
    refine .inr ⟨ad, c, rfl, by omega, fun j v hj => hc j v ?_⟩
    rw [icells, List.map_take] at hj
    rw [icells]
    by_cases hjk : j < k
    · rw [List.getElem?_take_of_lt hjk] at hj
      exact hj
    · rw [List.getElem?_eq_none (by simp; omega)] at hj
      cases hj
theorem sub_drop (x : List Int) (a b k : Nat) : (sub x a b).drop k = sub x (a + k) b := by
  unfold sub
  rw [List.drop_take, List.drop_drop]
  congr 1
  omega
theorem sub_take (x : List Int) (a b k : Nat) (hk : a + k ≤ b) : (sub x a b).take k = sub x a (a + k) := by
  unfold sub
  rw [List.take_take]
  congr 1
  omega
theorem sub_all (x : List Int) : sub x 0 x.length = x := by simp [sub]

theorem hold_sub {w : World} {ao : Option Addr} {c l h : Nat} {x : List Int} (hx : HI w (.slice ao x.length c) x) (hl : l ≤ h) (hh : h ≤ x.length) : Holds w (.slice (slF ao c l) (h - l) (c - l)) (h - l) (icells (sub x l h)) := by
  have h1 := hold_from hx rfl (Nat.le_trans hl hh)
  have h2 := hold_to h1 (k := h - l) (by simp) (by omega)
  exact h2
/-- a row of one's own from B on is kept, where a block below B is written -/
theorem holds_grown {u u' : World} {B n : Nat} {e : TypeId} {s : Nat} {v : Value} {xs : List Value} (h : u.ownsRow B e s v n xs) {g : Nat} (hg : u.grownBy u' (some g)) (hB : g < B) : u'.ownsRow B e s v n xs := by
  refine h.kept hg ?_
  cases hb : v.ownBlock with
  | none => exact .inl rfl
  | some j =>
    have := owns_ge h hb
    exact .inr (fun q => by cases q; omega)
theorem Ls.lt {w u : World} {g n : Nat} {Z : List Int} (h : Ls w g n Z u) : w.heap.size ≤ g ∧ g < u.heap.size := by
  rcases h.own.2 with ⟨h1, _⟩ | ⟨g', cap, cur, h1, h2, h3, _⟩
  · cases h1
  · cases h1
    exact ⟨h2, (Array.getElem?_eq_some_iff.1 h3).1⟩
end Go.Proofs.YtjclgflbhdbaaaaDoor

/- What an argument of type []int, []api.Change holds, and how much of it there is by the statement's own count. -/
namespace Go.Proofs.YtjclgflbhdbaaaaDoor
open Go.ChangeShapes Go.WideShapes Go.ChangeAt Go.RowKit

theorem own : ownKnob Tryd.prog.godebug = none := by kernel_rfl
theorem laidOut : laidOutB Tryd.prog = true := by kernel_rfl
theorem cellsInt : Tryd.prog.cellsOf 3 = 1 := by kernel_rfl
theorem cellsCh : Tryd.prog.cellsOf 48 = 4 := by kernel_rfl

/-- numbers that an int holds -/
def w64 (z : Int) : Prop := -9223372036854775808 ≤ z ∧ z ≤ 9223372036854775807
theorem w64_of {z : Int} (h : (Lit.int .i64 z).wf = true) : w64 z := bounds_i64 h
/-- a change of numbers that an int holds -/
def wCh (c : Ch) : Prop := w64 c.A ∧ w64 c.AN ∧ w64 c.B ∧ w64 c.BN

theorem lits_len {H : Type} (l : List Int) : l.length ≤ Rows.uptoBulkAll (lits (H := H) .i64 l) := by
  induction l with
  | nil => simp [lits, Rows.uptoBulkAll]
  | cons s t ih =>
    have e : lits (H := H) .i64 (s :: t) = .lit (.int .i64 s) :: lits .i64 t := rfl
    rw [e]
    simp only [Rows.uptoBulkAll, Rows.uptoBulk, List.length_cons]
    omega

theorem bulk_range {H : Type} (D : Nat → DataW H) (n : Nat) (h : ∀ i, i < n → 1 ≤ Rows.uptoBulk (D i)) : n ≤ Rows.uptoBulkAll ((List.range n).map D) := by
  have hall : ∀ l : List (DataW H), (∀ d ∈ l, 1 ≤ Rows.uptoBulk d) → l.length ≤ Rows.uptoBulkAll l := by
    intro l
    induction l with
    | nil => simp
    | cons d t ih =>
      intro hd
      have h1 := hd d (List.mem_cons_self ..)
      have h2 := ih fun x hx => hd x (List.mem_cons_of_mem _ hx)
      rw [Rows.uptoBulkAll]
      simp only [List.length_cons]
      omega
  have := hall ((List.range n).map D) (by
    intro d hd
    simp only [List.mem_map, List.mem_range] at hd
    obtain ⟨i, hi, rfl⟩ := hd
    exact h i hi)
  simpa using this

set_option maxRecDepth 10000 in
/-- the changes that an argument holds -/
theorem open_chs {H : Type} {enc : TypeId × Value → H} {W : World} {fuel : Nat} {ao : Option Addr} {len cap : Nat} {d : DataW H} {p : List MemPlace}
    (h : DataW.trod enc Tryd.prog W 0 (fun _ => true) true fuel 22 [.slice ao len cap] = some (d, p)) :
    ∃ l : List Ch, HCh W (.slice ao len cap) l ∧ l.length ≤ Rows.uptoBulk d ∧ ∀ c ∈ l, wCh c := by
  rcases Go.Deep.open_slice Tryd.underlying22 h with ⟨hcs, hx⟩ | ⟨a, l, c, m, n, D, Pl, hcs, _, hl, hm, hmm, hx, hel⟩
  · simp at hcs
    obtain ⟨rfl, rfl, rfl⟩ := hcs
    exact ⟨[], .inl ⟨rfl, rfl, rfl⟩, by simp, by simp⟩
  · simp at hcs
    obtain ⟨rfl, rfl, rfl⟩ := hcs
    simp only [Prod.mk.injEq] at hx
    obtain ⟨rfl, _⟩ := hx
    have hlm : len ≤ m := by rw [hmm]; split <;> omega
    have each : ∀ i, i < len → ∃ c : Ch, wCh c ∧ W.cell? (a.add (i * 4)) = some (.int .i64 c.A) ∧ W.cell? (a.add (i * 4 + 1)) = some (.int .i64 c.AN) ∧ W.cell? (a.add (i * 4 + 2)) = some (.int .i64 c.B) ∧ W.cell? (a.add (i * 4 + 3)) = some (.int .i64 c.BN) ∧ 1 ≤ Rows.uptoBulk (D i) := by
      intro i hi
      obtain ⟨cs', h1, h2⟩ := hel i (by omega)
      rw [cellsCh] at h1
      obtain ⟨_, hlen, hcell⟩ := World.cells?_some h1
      obtain ⟨xs, k, hk, hxy, _, hxl, hf⟩ := DataW.trod_struct Tryd.underlying48 h2
      match xs, hxl, cs', hlen with
      | [y0, y1, y2, y3], _, [v0, v1, v2, v3], _ =>
        have g0 := hf 0 _ rfl
        have g1 := hf 1 _ rfl
        have g2 := hf 2 _ rfl
        have g3 := hf 3 _ rfl
        simp [cellsInt] at g0 g1 g2 g3
        obtain ⟨z0, e0, _, w0⟩ := DataW.trod_int Tryd.underlying3 g0
        obtain ⟨z1, e1, _, w1⟩ := DataW.trod_int Tryd.underlying3 g1
        obtain ⟨z2, e2, _, w2⟩ := DataW.trod_int Tryd.underlying3 g2
        obtain ⟨z3, e3, _, w3⟩ := DataW.trod_int Tryd.underlying3 g3
        cases e0
        cases e1
        cases e2
        cases e3
        have c0 := hcell 0 (by omega)
        have c1 := hcell 1 (by omega)
        have c2 := hcell 2 (by omega)
        have c3 := hcell 3 (by omega)
        rw [Go.Deep.add_add] at c0 c1 c2 c3
        simp only [Prod.mk.injEq] at hxy
        refine ⟨⟨z0, z1, z2, z3⟩, ⟨w64_of w0, w64_of w1, w64_of w2, w64_of w3⟩, by simpa using c0, by simpa using c1, by simpa using c2, by simpa using c3, ?_⟩
        rw [hxy.1, Rows.uptoBulk]
        omega
    have : Inhabited Ch := ⟨⟨0, 0, 0, 0⟩⟩
    obtain ⟨f, hf⟩ := Go.Deep.choose_lt each
    have hlen : ((List.range len).map f).length = len := by simp
    refine ⟨(List.range len).map f, .inr ⟨a, cap, by rw [hlen], by rw [hlen]; exact hl, fun j u hj => ?_⟩, ?_, ?_⟩
    · have hj' : j < len * 4 := by
        have := (List.getElem?_eq_some_iff.1 hj).1
        rw [chcells_length, hlen] at this
        exact this
      obtain ⟨h0, h1, h2, h3⟩ := chcells_at ((List.range len).map f) (j / 4) (by rw [hlen]; omega)
      obtain ⟨_, g0, g1, g2, g3, _⟩ := hf (j / 4) (by omega)
      simp only [List.getElem_map, List.getElem_range] at h0 h1 h2 h3
      rcases (by omega : j = 4 * (j / 4) ∨ j = 4 * (j / 4) + 1 ∨ j = 4 * (j / 4) + 2 ∨ j = 4 * (j / 4) + 3) with e | e | e | e
      · rw [e, h0] at hj
        rw [e, Nat.mul_comm, g0, hj]
      · rw [e, h1] at hj
        rw [e, Nat.mul_comm, g1, hj]
      · rw [e, h2] at hj
        rw [e, Nat.mul_comm, g2, hj]
      · rw [e, h3] at hj
        rw [e, Nat.mul_comm, g3, hj]
    · rw [hlen, Rows.uptoBulk]
      have := bulk_range D len fun i hi => (hf i hi).2.2.2.2.2
      omega
    · intro c hc
      simp only [List.mem_map, List.mem_range] at hc
      obtain ⟨i, hi, rfl⟩ := hc
      exact (hf i hi).1
end Go.Proofs.YtjclgflbhdbaaaaDoor

/- What an argument of type []string holds, and how much of it there is by the statement's own count. -/
namespace Go.Proofs.YtjclgflbhdbaaaaDoor
open Go.ChangeShapes Go.WideShapes Go.ChangeAt Go.RowKit

theorem cellsStr : Tryd.prog.cellsOf 9 = 1 := by kernel_rfl
theorem strs_bulk {H : Type} (l : List ByteArray) : l.length + (l.map fun s => s.data.toList).flatten.length ≤ Rows.uptoBulkAll (strs (H := H) l) := by
  induction l with
  | nil => simp [strs, Rows.uptoBulkAll]
  | cons s t ih =>
    have e : strs (H := H) (s :: t) = .lit (.string s.data.toList) :: strs t := rfl
    rw [e, Rows.uptoBulkAll, Rows.uptoBulk]
    simp only [List.length_cons, List.map_cons, List.flatten_cons, List.length_append] at ih ⊢
    omega

/-- the texts that an argument holds -/
theorem open_texts {H : Type} {enc : TypeId × Value → H} {W : World} {fuel : Nat} {ao : Option Addr} {len cap : Nat} {d : DataW H} {p : List MemPlace}
    (h : DataW.trod enc Tryd.prog W 0 (fun _ => true) true fuel 23 [.slice ao len cap] = some (d, p)) :
    ∃ ws : List (List UInt8), HS W (.slice ao len cap) ws ∧ ws.length + ws.flatten.length ≤ Rows.uptoBulk d := by
  rcases open_strings Tryd.underlying23 Tryd.underlying9 cellsStr h with ⟨hcs, hx⟩ | ⟨a, l, c, ss, hcs, _, hl, hm, hz, hx, hcell, _⟩
  · simp at hcs
    obtain ⟨rfl, rfl, rfl⟩ := hcs
    exact ⟨[], .inl ⟨rfl, rfl, rfl⟩, by simp⟩
  · simp at hcs
    obtain ⟨rfl, rfl, rfl⟩ := hcs
    simp at hz
    simp only [Prod.mk.injEq] at hx
    obtain ⟨rfl, _⟩ := hx
    have hlen : ((ss.take len).map fun s => s.data.toList).length = len := by simp; omega
    refine ⟨(ss.take len).map fun s => s.data.toList, .inr ⟨a, cap, by rw [hlen], by omega, fun j u hj => ?_⟩, ?_⟩
    · have hj' : j < len := by
        have := (List.getElem?_eq_some_iff.1 hj).1
        rw [scells_length, hlen] at this
        exact this
      rw [hcell j (by omega)]
      have hjs : j < ss.length := by omega
      simp [scells, hj', hjs] at hj
      simp [List.getD, hjs, ← hj]
    · have := strs_bulk (H := H) (ss.take len)
      rw [Rows.uptoBulk]
      simp only [List.length_map] at this ⊢
      omega
end Go.Proofs.YtjclgflbhdbaaaaDoor

/- Append onto a new row of what an argument holds, whether it is nil or not. -/
namespace Go.Proofs.YtjclgflbhdbaaaaDoor
open Go.RowKit

theorem ef_append_w (w : World) (T E ty : TypeId) (z : Value) (size bytes : Nat) (hT : Tryd.prog.underlying T = some (.slice E)) (hinfo : (Tryd.prog.info? E).map (fun i => (i.zero, i.size, i.bytes)) = some (some z, size, bytes)) (hz1 : z.cells.size = size) (hsz : 0 < size) (hby : bytes ≤ 64)
    (base : Nat) (v : Value) (k : Nat) (xs : List Value) (hown : w.ownsRow base E size v k xs) (vx : Value) (m : Nat) (news : List Value) (hh : Holds w vx m news) (hl : news.length = m * size)
    (h1 : ∀ u ∈ news, u.oneCell' = true) (hk : k + m ≤ 2199023255552) (hbase : base ≤ w.heap.size) :
    ∃ v' w', (Builtin.append_ #[T, T] ty #[v, vx]).run Tryd.prog w = .ok v' w' ∧ w'.ownsRow base E size v' (k + m) (xs ++ news) ∧ w.grownBy w' v.ownBlock ∧ (v'.ownBlock = v.ownBlock ∨ v'.ownBlock = some w.heap.size) := by
  obtain ⟨i0, hi0, hz0, hzs, hz2⟩ := info_parts hinfo
  rcases hh with ⟨rfl, rfl, rfl⟩ | ⟨ad, c, rfl, _, hc⟩
  · exact ⟨v, w, run_append_owned_none (P := Tryd.prog) (w := w) base T ty E i0 size hT hi0 v k xs hown, by simpa using hown, World.grownBy.refl _ _, .inl rfl⟩
  · obtain ⟨v', w', hr, h2, h3, _, h5⟩ := run_append_own_at (P := Tryd.prog) w base T ty E i0 z size bytes hT hi0 hz0 hzs hz2 hz1 hsz v k xs hown ad m c news hl hc h1 (by unfold maxLen; omega) (by
      have : (k + m) * bytes ≤ (k + m) * 64 := Nat.mul_le_mul_left _ hby
      omega) hbase
    exact ⟨v', w', hr, h2, h3, h5⟩
theorem wpList_ef_append {ops : Array Oper} {rest : List Oper} {o : Oper} {a : Act} {Q : Exit → Act → World → Prop} (w : World) (hw : Region.wanted o (yielded ops a.tmps) = true) (s x : Operand) (T E : TypeId) (z : Value) (size bytes : Nat)
    (ho : o.op = .call { callee := .builtin .append, args := #[s, x], argTypes := #[T, T] }) (hT : Tryd.prog.underlying T = some (.slice E)) (hinfo : (Tryd.prog.info? E).map (fun i => (i.zero, i.size, i.bytes)) = some (some z, size, bytes)) (hz1 : z.cells.size = size) (hsz : 0 < size) (hby : bytes ≤ 64)
    (base : Nat) (v : Value) (k : Nat) (xs : List Value) (hs : a.eval s = v) (hown : w.ownsRow base E size v k xs) (vx : Value) (m : Nat) (news : List Value) (hx : a.eval x = vx) (hh : Holds w vx m news) (hl : news.length = m * size)
    (h1 : ∀ u ∈ news, u.oneCell' = true) (hk : k + m ≤ 2199023255552) (hbase : base ≤ w.heap.size)
    (h : ∀ v' w', w'.ownsRow base E size v' (k + m) (xs ++ news) → w.grownBy w' v.ownBlock → (v'.ownBlock = v.ownBlock ∨ v'.ownBlock = some w.heap.size) → wpList Tryd.prog ops Q rest (a.put o.dst v') w') : wpList Tryd.prog ops Q (o :: rest) a w := by
  refine wpList_step fun K hK => ?_
  rw [if_pos hw]
  obtain ⟨v', w', hr, h2, h3, h4⟩ := ef_append_w w T E o.type z size bytes hT hinfo hz1 hsz hby base v k xs hown vx m news hh hl h1 hk hbase
  unfold Oper.wp
  simp [execOp, ho, resolve, invoke, builtin, hs, hx, hr, Result.andThen]
  exact hK _ _ (h v' w' h2 h3 h4)
theorem mem_flatE {a : List (List UInt8)} {t : List UInt8} (h : t ∈ a) : t.length ≤ a.flatten.length := by
  induction a with
  | nil => cases h
  | cons s a ih =>
    rw [List.flatten_cons, List.length_append]
    rcases List.mem_cons.1 h with rfl | h
    · omega
    · have := ih h
      omega
end Go.Proofs.YtjclgflbhdbaaaaDoor

/- SameStrings of the reference, walked at two slices that hold the same. -/
namespace Go.Proofs.YtjclgflbhdbaaaaDoor
open Go.RowKit

set_option maxHeartbeats 1000000 in
theorem SameS_any (va vb : Value) (l : List (List UInt8)) (w : World) (hlen : l.length ≤ 4398046511104) (ha : HS w va l) (hb : HS w vb l) :
    Calls Tryd.prog 7 #[va, vb] w fun e w' => e = .returned (.bool true) ∧ Below w.heap.size w w' := by
  obtain ⟨ao, ca, rfl⟩ := Holds.form ha
  obtain ⟨bo, cb, rfl⟩ := Holds.form hb
  go_enter Tryd.func7, Tryd.ntmps7
  go_wp2
  go_loopw [5] (fun i wr => ∃ k m : Nat, k ≤ l.length ∧ i = .int .i64 k ∧ wr = w.drewN m) (fun i _ => l.length - (intOf i).toNat)
  case atStart => exact ⟨0, 0, Nat.zero_le _, rfl, rfl⟩
  case round =>
    obtain ⟨k, m, hk, rfl, rfl⟩ := hrel
    by_cases hlt : k < l.length
    · obtain ⟨b1, o1, rfl, _, hc1⟩ := HS.at ha (by omega)
      obtain ⟨b2, o2, rfl, _, hc2⟩ := HS.at hb (by omega)
      have d1 := hc1 k hlt
      have d2 := hc2 k hlt
      clear hc1 hc2
      have i1 : 0 ≤ (k : Int) := by omega
      have i2 : (k : Int) < (l.length : Int) := by omega
      go_wp2_with fail
      go_quiet (fail)
      go_wp2
      go_roundw
      case rel => exact ⟨k + 1, _, by omega, by go_num, rfl⟩
      case measure => simp [intOf]; omega
    · go_wp2
      go_ret
      exact ⟨rfl, Below.dN (Below.refl _ w) _⟩

end Go.Proofs.YtjclgflbhdbaaaaDoor
