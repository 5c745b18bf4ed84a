/-
  Texts that belong together, joined: EdM3, EdM4, PaMath, PaRow, PaCp, PaIn.
-/
import Derived.Test.YteplejpbgajecaaPartA1
import Derived.Laws.CopyOwn
import Derived.Lib.Overlaps
import Derived.Lib.AppendZerosOnto
import Derived.Deep.CutRange

/- Edit scripts and the pairs that they keep, further: pairs that fit make a right script; what is kept as a list; two scripts one behind the other; going back. -/
namespace Go.Proofs.Yteplejpbgajecaa

/-- pairs in a rising row, from a and b on, below n and m -/
def Fit : Int → Int → Int → Int → List Rn → Prop
  | a, b, n, m, [] => a ≤ n ∧ b ≤ m
  | a, b, n, m, r :: P => a ≤ r.a ∧ b ≤ r.b ∧ r.n = 1 ∧ Fit (r.a + 1) (r.b + 1) n m P
theorem Fit.le {a b n m : Int} {P : List Rn} (h : Fit a b n m P) : a ≤ n ∧ b ≤ m := by
  induction P generalizing a b with
  | nil => exact h
  | cons r P ih => have := ih h.2.2.2; have h1 := h.1; have h2 := h.2.1; omega
theorem right_step {x y n m : Int} {l : List Ch} (h : Right true (x + 1) (y + 1) n m l) : (∀ f, Right f x y n m l) ∧ U x y n m l = ⟨x, y, 1⟩ :: U (x + 1) (y + 1) n m l := by
  cases l with
  | nil =>
    obtain ⟨h1, h2, h3⟩ := h
    refine ⟨fun f => ⟨by omega, by omega, by omega⟩, ?_⟩
    rw [U_nil, U_nil, show (n - x).toNat = (n - (x + 1)).toNat + 1 by omega, un]
  | cons c l =>
    obtain ⟨⟨h1, h2, h3, h4⟩, h5⟩ := h
    refine ⟨fun f => ⟨⟨h1, by omega, by omega, .inr (by omega)⟩, h5⟩, ?_⟩
    rw [U_cons, U_cons, show (c.A - x).toNat = (c.A - (x + 1)).toNat + 1 by omega, un, List.cons_append]
/-- pairs that fit make a right script that keeps just them -/
theorem fit_right {a b n m : Int} {P : List Rn} (h : Fit a b n m P) (ha : 0 ≤ a) (hb : 0 ≤ b) (hn : n ≤ 2147483647) (hm : m ≤ 2147483647) :
    Right true a b n m (betw a b (P ++ [⟨n, m, 0⟩])) ∧ U a b n m (betw a b (P ++ [⟨n, m, 0⟩])) = P := by
  induction P generalizing a b with
  | nil =>
    obtain ⟨h1, h2⟩ := h
    rw [List.nil_append, betw]
    dsimp only
    split
    · rw [betw]
      refine ⟨⟨⟨by rw [numB_iff]; dsimp only; omega, by dsimp only; omega, by dsimp only; omega, .inl rfl⟩, ⟨by dsimp only; omega, by dsimp only; omega, by dsimp only; omega⟩⟩, ?_⟩
      rw [U_cons, U_nil]
      dsimp only
      rw [show (a - a).toNat = 0 by omega, show (n - (a + (n - a))).toNat = 0 by omega]
      rfl
    · rw [betw]
      refine ⟨⟨h1, h2, by omega⟩, ?_⟩
      rw [U_nil, show (n - a).toNat = 0 by omega]
      rfl
  | cons r P ih =>
    obtain ⟨x, y, z⟩ := r
    obtain ⟨h1, h2, h3, h4⟩ := h
    dsimp only at h1 h2 h3 h4
    subst h3
    obtain ⟨i1, i2⟩ := ih h4 (by omega) (by omega)
    obtain ⟨s1, s2⟩ := right_step i1
    have hle := h4.le
    rw [List.cons_append, betw]
    dsimp only
    split
    · refine ⟨⟨⟨by rw [numB_iff]; dsimp only; omega, by dsimp only; omega, by dsimp only; omega, .inl rfl⟩, ?_⟩, ?_⟩
      · dsimp only
        rw [show a + (x - a) = x by omega, show b + (y - b) = y by omega]
        exact s1 false
      · rw [U_cons]
        dsimp only
        rw [show a + (x - a) = x by omega, show b + (y - b) = y by omega, s2, i2, show (a - a).toNat = 0 by omega]
        rfl
    · obtain rfl : x = a := by omega
      obtain rfl : y = b := by omega
      refine ⟨s1 true, ?_⟩
      rw [s2, i2]
theorem fit_of_up {a b n m : Int} {P : List Rn} (hu : Up P) (h : ∀ r ∈ P, r.n = 1 ∧ a ≤ r.a ∧ r.a < n ∧ b ≤ r.b ∧ r.b < m) (hn : a ≤ n) (hm : b ≤ m) : Fit a b n m P := by
  induction P generalizing a b with
  | nil => exact ⟨hn, hm⟩
  | cons r P ih =>
    unfold Up at hu
    rw [List.pairwise_cons] at hu
    have h0 := h r (List.mem_cons_self ..)
    refine ⟨h0.2.1, h0.2.2.2.1, h0.1, ih hu.2 (fun q hq => ?_) (by omega) (by omega)⟩
    have h1 := h q (List.mem_cons_of_mem _ hq)
    have h2 := hu.1 q hq
    omega
theorem Right.bounds {f : Bool} {a b n m : Int} {l : List Ch} (h : Right f a b n m l) : ∀ r ∈ U a b n m l, r.n = 1 ∧ a ≤ r.a ∧ r.a < n ∧ b ≤ r.b ∧ r.b < m := by
  induction l generalizing f a b with
  | nil =>
    obtain ⟨h1, h2, h3⟩ := h
    intro r hr
    rw [U_nil, mem_un] at hr
    omega
  | cons c l ih =>
    obtain ⟨⟨h1, h2, h3, h4⟩, h5⟩ := h
    rw [numB_iff] at h1
    have hle := h5.le
    intro r hr
    rw [U_cons, List.mem_append, mem_un] at hr
    rcases hr with hr | hr
    · omega
    · have := ih h5 r hr
      omega

/-- pairs out of what is kept as a list -/
def keptR : Int → List Int → List Rn
  | _, [] => []
  | i, z :: t => if z = -1 then keptR (i + 1) t else ⟨i, z, 1⟩ :: keptR (i + 1) t
theorem keptR_append (i : Int) (X Y : List Int) : keptR i (X ++ Y) = keptR i X ++ keptR (i + X.length) Y := by
  induction X generalizing i with
  | nil => simp [keptR]
  | cons z t ih =>
    rw [List.cons_append, keptR, keptR, ih]
    rw [show i + 1 + (t.length : Int) = i + ((z :: t).length : Int) by simp; omega]
    split <;> simp
theorem keptR_none (i : Int) (k : Nat) : keptR i (List.replicate k (-1)) = [] := by
  induction k generalizing i with
  | zero => rfl
  | succ k ih => rw [List.replicate_succ, keptR, if_pos rfl, ih]
theorem keptR_run (i b : Int) (hb : 0 ≤ b) (k : Nat) : keptR i ((List.range k).map fun (j : Nat) => b + (j : Int)) = un i b k := by
  induction k generalizing i b with
  | zero => rfl
  | succ k ih =>
    rw [List.range_succ_eq_map, List.map_cons, List.map_map, keptR, if_neg (by simp; omega), un]
    have := ih (i + 1) (b + 1) (by omega)
    rw [← this]
    simp only [Int.natCast_zero, Int.add_zero]
    congr 2
    apply List.map_congr_left
    intro j _
    simp
    omega
theorem mem_keptR {i : Int} {K : List Int} {r : Rn} : r ∈ keptR i K ↔ r.n = 1 ∧ i ≤ r.a ∧ K[(r.a - i).toNat]? = some r.b ∧ r.b ≠ -1 := by
  induction K generalizing i with
  | nil => simp [keptR]
  | cons z t ih =>
    rw [keptR]
    have key : (r.n = 1 ∧ i + 1 ≤ r.a ∧ t[(r.a - (i + 1)).toNat]? = some r.b ∧ r.b ≠ -1) ↔ (r.n = 1 ∧ i + 1 ≤ r.a ∧ (z :: t)[(r.a - i).toNat]? = some r.b ∧ r.b ≠ -1) := by
      by_cases h : i + 1 ≤ r.a
      · rw [show (r.a - i).toNat = (r.a - (i + 1)).toNat + 1 by omega, List.getElem?_cons_succ]
      · constructor <;> (intro h1; omega)
    split
    · rename_i hz
      rw [ih, key]
      constructor
      · rintro ⟨h1, h2, h3, h4⟩
        exact ⟨h1, by omega, h3, h4⟩
      · rintro ⟨h1, h2, h3, h4⟩
        refine ⟨h1, ?_, h3, h4⟩
        by_cases h : r.a = i
        · rw [show (r.a - i).toNat = 0 by omega, List.getElem?_cons_zero, Option.some_inj] at h3
          omega
        · omega
    · rename_i hz
      rw [List.mem_cons, ih, key]
      constructor
      · rintro (rfl | ⟨h1, h2, h3, h4⟩)
        · simp [hz]
        · exact ⟨h1, by omega, h3, h4⟩
      · rintro ⟨h1, h2, h3, h4⟩
        by_cases h : r.a = i
        · left
          rw [show (r.a - i).toNat = 0 by omega, List.getElem?_cons_zero, Option.some_inj] at h3
          obtain ⟨x, y, w⟩ := r
          dsimp only at *
          rw [h, h1, h3]
        · exact .inr ⟨h1, by omega, h3, h4⟩
theorem keptR_ge {i : Int} {K : List Int} : ∀ r ∈ keptR i K, i ≤ r.a := fun _ hr => (mem_keptR.1 hr).2.1
/-- in order of the first text -/
def UpA (l : List Rn) : Prop := l.Pairwise fun p q => p.a < q.a
theorem Up.a {l : List Rn} (h : Up l) : UpA l := h.imp fun h => h.1
theorem keptR_up (i : Int) (K : List Int) : UpA (keptR i K) := by
  induction K generalizing i with
  | nil => exact List.Pairwise.nil
  | cons z t ih =>
    rw [keptR]
    split
    · exact ih _
    · exact List.Pairwise.cons (fun r hr => by have := keptR_ge r hr; dsimp only; omega) (ih _)
theorem upA_ext {l k : List Rn} (hl : UpA l) (hk : UpA k) (h : ∀ r, r ∈ l ↔ r ∈ k) : l = k := by
  induction l generalizing k with
  | nil =>
    cases k with
    | nil => rfl
    | cons y t => have := (h y).2 (List.mem_cons_self ..); simp at this
  | cons x t ih =>
    cases k with
    | nil => have := (h x).1 (List.mem_cons_self ..); simp at this
    | cons y u =>
      unfold UpA at hl hk
      rw [List.pairwise_cons] at hl hk
      have e : x = y := by
        have h1 := (h x).1 (List.mem_cons_self ..)
        have h2 := (h y).2 (List.mem_cons_self ..)
        rw [List.mem_cons] at h1 h2
        rcases h1 with h1 | h1
        · exact h1
        · rcases h2 with h2 | h2
          · exact h2.symm
          · have := hl.1 y h2
            have := hk.1 x h1
            omega
      subst e
      rw [ih hl.2 hk.2 fun r => ?_]
      have hr := h r
      rw [List.mem_cons, List.mem_cons] at hr
      constructor
      · intro hrt
        rcases hr.1 (.inr hrt) with e | e
        · subst e; have := hl.1 _ hrt; omega
        · exact e
      · intro hru
        rcases hr.2 (.inr hru) with e | e
        · subst e; have := hk.1 _ hru; omega
        · exact e

/-- what the rest of a script keeps -/
def kr (a b n m : Int) (l : List Ch) : List Int := (piecesL a b n m l).flatMap pk
theorem kr_nil (a b n m : Int) : kr a b n m [] = (List.range (n - a).toNat).map fun (j : Nat) => b + (j : Int) := by simp [kr, piecesL, pk]
theorem kr_cons (a b n m : Int) (c : Ch) (l : List Ch) : kr a b n m (c :: l) = ((List.range (c.A - a).toNat).map fun (j : Nat) => b + (j : Int)) ++ List.replicate c.AN.toNat (-1) ++ kr (c.A + c.AN) (c.B + c.BN) n m l := by
  simp [kr, piecesL, pk]
theorem kr_length {f : Bool} {a b n m : Int} {l : List Ch} (h : Right f a b n m l) : (kr a b n m l).length = (n - a).toNat := by
  induction l generalizing f a b with
  | nil => rw [kr_nil]; simp
  | cons c l ih =>
    obtain ⟨⟨h1, h2, h3, h4⟩, h5⟩ := h
    rw [numB_iff] at h1
    have hle := h5.le
    rw [kr_cons]
    simp only [List.length_append, List.length_map, List.length_range, List.length_replicate, ih h5]
    omega
theorem kr_kept {f : Bool} {a b n m : Int} {l : List Ch} (h : Right f a b n m l) (hb : 0 ≤ b) : keptR a (kr a b n m l) = U a b n m l := by
  induction l generalizing f a b with
  | nil => rw [kr_nil, U_nil, keptR_run _ _ hb]
  | cons c l ih =>
    obtain ⟨⟨h1, h2, h3, h4⟩, h5⟩ := h
    rw [numB_iff] at h1
    rw [kr_cons, U_cons, keptR_append, keptR_append, keptR_run _ _ hb, keptR_none, List.append_nil]
    simp only [List.length_append, List.length_map, List.length_range, List.length_replicate]
    rw [show a + (((c.A - a).toNat + c.AN.toNat : Nat) : Int) = c.A + c.AN by omega, ih h5 (by omega)]
theorem kr_each {f : Bool} {a b n m : Int} {l : List Ch} (h : Right f a b n m l) (hb : 0 ≤ b) : ∀ z ∈ kr a b n m l, z = -1 ∨ (0 ≤ z ∧ z < m) := by
  induction l generalizing f a b with
  | nil =>
    obtain ⟨h1, h2, h3⟩ := h
    intro z hz
    rw [kr_nil, List.mem_map] at hz
    obtain ⟨j, hj, rfl⟩ := hz
    rw [List.mem_range] at hj
    omega
  | cons c l ih =>
    obtain ⟨⟨h1, h2, h3, h4⟩, h5⟩ := h
    rw [numB_iff] at h1
    have hle := h5.le
    intro z hz
    rw [kr_cons, List.mem_append, List.mem_append, List.mem_map] at hz
    rcases hz with (⟨j, hj, rfl⟩ | hz) | hz
    · rw [List.mem_range] at hj
      omega
    · exact .inl (List.eq_of_mem_replicate hz)
    · exact ih h5 (by omega) z hz
/-- a list of what is kept is told by its pairs and its length -/
theorem kept_inj {i : Int} {K L : List Int} (hl : K.length = L.length) (h : keptR i K = keptR i L) : K = L := by
  apply List.ext_getElem? 
  intro k
  by_cases hk : k < K.length
  · have hk' : k < L.length := by omega
    rw [List.getElem?_eq_getElem hk, List.getElem?_eq_getElem hk', Option.some_inj]
    have h1 : ∀ z, z ≠ -1 → (K[k]? = some z ↔ L[k]? = some z) := by
      intro z hz
      have m1 := mem_keptR (i := i) (K := K) (r := ⟨i + k, z, 1⟩)
      have m2 := mem_keptR (i := i) (K := L) (r := ⟨i + k, z, 1⟩)
      dsimp only at m1 m2
      rw [show (i + (k : Int) - i).toNat = k by omega] at m1 m2
      rw [h, m2] at m1
      constructor
      · intro h3
        exact (m1.2 ⟨rfl, by omega, h3, hz⟩).2.2.1
      · intro h3
        exact (m1.1 ⟨rfl, by omega, h3, hz⟩).2.2.1
    by_cases e : K[k] = -1
    · by_cases e2 : L[k] = -1
      · rw [e, e2]
      · have := (h1 L[k] e2).2 (List.getElem?_eq_getElem hk')
        rw [List.getElem?_eq_getElem hk, Option.some_inj] at this
        exact this
    · have := (h1 K[k] e).1 (List.getElem?_eq_getElem hk)
      rw [List.getElem?_eq_getElem hk', Option.some_inj] at this
      exact this.symm
  · rw [List.getElem?_eq_none (by omega), List.getElem?_eq_none (by omega)]

/-- lists of what is kept that make a script: each number from nx on, below m, rising -/
def Vk : Int → Int → List Int → Prop
  | _, _, [] => True
  | nx, m, z :: t => (z = -1 ∧ Vk nx m t) ∨ (z ≠ -1 ∧ nx ≤ z ∧ z < m ∧ Vk (z + 1) m t)
theorem Vk.fit {nx m i : Int} {K : List Int} (h : Vk nx m K) (hm : nx ≤ m) : Fit i nx (i + K.length) m (keptR i K) := by
  have wk : ∀ {a b n m : Int} {P : List Rn}, Fit (a + 1) b n m P → Fit a b n m P := by
    intro a b n m P h
    cases P with
    | nil => exact ⟨by have := h.1; omega, h.2⟩
    | cons r P => exact ⟨by have := h.1; omega, h.2⟩
  induction K generalizing nx i with
  | nil => exact ⟨by simp, hm⟩
  | cons z t ih =>
    rw [keptR]
    rcases h with ⟨rfl, h⟩ | ⟨hz, h1, h2, h3⟩
    · rw [if_pos rfl]
      have := ih h hm (i := i + 1)
      rw [show i + 1 + (t.length : Int) = i + ((-1 :: t).length : Int) by simp; omega] at this
      exact wk this
    · rw [if_neg hz]
      have := ih h3 (by omega) (i := i + 1)
      rw [show i + 1 + (t.length : Int) = i + ((z :: t).length : Int) by simp; omega] at this
      exact ⟨Int.le_refl _, h1, rfl, this⟩
theorem Vk.each {nx m : Int} {K : List Int} (h : Vk nx m K) (h0 : 0 ≤ nx) : ∀ z ∈ K, z = -1 ∨ 0 ≤ z := by
  induction K generalizing nx with
  | nil => simp
  | cons y t ih =>
    intro z hz
    rw [List.mem_cons] at hz
    rcases h with ⟨rfl, h⟩ | ⟨hy, h1, h2, h3⟩
    · rcases hz with rfl | hz
      · exact .inl rfl
      · exact ih h h0 z hz
    · rcases hz with rfl | hz
      · right; omega
      · exact ih h3 (by omega) z hz
theorem vk_of_fit {i nx n m : Int} {K : List Int} (h : Fit i nx n m (keptR i K)) : Vk nx m K := by
  induction K generalizing i nx with
  | nil => trivial
  | cons z t ih =>
    rw [keptR] at h
    by_cases hz : z = -1
    · rw [if_pos hz] at h
      left
      refine ⟨hz, ?_⟩
      by_cases hin : i + 1 ≤ n
      · refine ih (i := i + 1) ?_
        revert h
        have hge := keptR_ge (i := i + 1) (K := t)
        generalize keptR (i + 1) t = P at hge ⊢
        intro h
        cases P with
        | nil => exact ⟨hin, h.2⟩
        | cons r P => exact ⟨hge r (List.mem_cons_self ..), h.2⟩
      · have hge := keptR_ge (i := i + 1) (K := t)
        have hnil : keptR (i + 1) t = [] := by
          cases hk : keptR (i + 1) t with
          | nil => rfl
          | cons r P =>
            rw [hk] at h hge
            have := hge r (List.mem_cons_self ..)
            have := h.2.2.2.le
            omega
        have hall : ∀ z ∈ t, z = -1 := by
          intro z hz
          obtain ⟨k, hk⟩ := List.getElem?_of_mem hz
          apply Classical.byContradiction
          intro hne
          have := mem_keptR (i := i + 1) (K := t) (r := ⟨i + 1 + k, z, 1⟩)
          dsimp only at this
          rw [hnil, show (i + 1 + (k : Int) - (i + 1)).toNat = k by omega] at this
          have := this.2 ⟨rfl, by omega, hk, hne⟩
          simp at this
        clear hnil hge h ih
        induction t with
        | nil => trivial
        | cons y t ih => exact .inl ⟨hall y (List.mem_cons_self ..), ih fun z hz => hall z (List.mem_cons_of_mem _ hz)⟩
    · rw [if_neg hz] at h
      obtain ⟨h1, h2, h3, h4⟩ := h
      dsimp only at h1 h2 h4
      exact .inr ⟨hz, h2, by have := h4.le; omega, ih h4⟩
end Go.Proofs.Yteplejpbgajecaa

/- Two scripts one behind the other: the pairs of both; associative, and one that keeps all adds nothing. -/
namespace Go.Proofs.Yteplejpbgajecaa

/-- what two scripts keep, run by run -/
def bothR : List Rn → List Rn → List Rn
  | [], _ => []
  | _ :: _, [] => []
  | p :: x, q :: y =>
    (if max p.b q.a < min (p.b + p.n) (q.a + q.n) then [⟨p.a + (max p.b q.a - p.b), q.b + (max p.b q.a - q.a), min (p.b + p.n) (q.a + q.n) - max p.b q.a⟩] else []) ++
      if min (p.b + p.n) (q.a + q.n) = p.b + p.n then bothR x (q :: y) else bothR (p :: x) y

theorem up_cmp {l : List Rn} (h : Up l) : ∀ r ∈ l, ∀ s ∈ l, r = s ∨ (r.a < s.a ∧ r.b < s.b) ∨ (s.a < r.a ∧ s.b < r.b) := by
  induction l with
  | nil => simp
  | cons x t ih =>
    unfold Up at h
    rw [List.pairwise_cons] at h
    intro r hr s hs
    rw [List.mem_cons] at hr hs
    rcases hr with rfl | hr
    · rcases hs with rfl | hs
      · exact .inl rfl
      · exact .inr (.inl (h.1 s hs))
    · rcases hs with rfl | hs
      · exact .inr (.inr (h.1 r hr))
      · exact ih h.2 r hr s hs
theorem exs_append (x y : List Rn) : exs (x ++ y) = exs x ++ exs y := by simp [exs]
theorem exs_one (r : Rn) : exs [r] = ex r := by simp [exs]

theorem both_head (p q : Rn) (hp : 0 ≤ p.n) (hq : 0 ≤ q.n) (i j : Int) : (⟨i, j, 1⟩ : Rn) ∈ exs (if max p.b q.a < min (p.b + p.n) (q.a + q.n) then [⟨p.a + (max p.b q.a - p.b), q.b + (max p.b q.a - q.a), min (p.b + p.n) (q.a + q.n) - max p.b q.a⟩] else []) ↔ ∃ t, (⟨i, t, 1⟩ : Rn) ∈ ex p ∧ (⟨t, j, 1⟩ : Rn) ∈ ex q := by
  obtain ⟨F, hF, f1, f2, f3⟩ : ∃ F, max p.b q.a = F ∧ p.b ≤ F ∧ q.a ≤ F ∧ (F = p.b ∨ F = q.a) := ⟨_, rfl, by omega, by omega, by omega⟩
  obtain ⟨T, hT, t1, t2, t3⟩ : ∃ T, min (p.b + p.n) (q.a + q.n) = T ∧ T ≤ p.b + p.n ∧ T ≤ q.a + q.n ∧ (T = p.b + p.n ∨ T = q.a + q.n) := ⟨_, rfl, by omega, by omega, by omega⟩
  rw [hF, hT]
  clear hF hT
  simp only [mem_ex]
  obtain ⟨k, hk⟩ : ∃ k : Nat, p.n.toNat = k := ⟨_, rfl⟩
  obtain ⟨o, ho⟩ : ∃ o : Nat, q.n.toNat = o := ⟨_, rfl⟩
  have hk' : p.n = k := by omega
  have ho' : q.n = o := by omega
  rw [hk, ho]
  rw [hk'] at t1 t3
  rw [ho'] at t2 t3
  split
  · rw [exs_one, mem_ex]
    dsimp only
    obtain ⟨u, hu⟩ : ∃ u : Nat, (T - F).toNat = u := ⟨_, rfl⟩
    have hu' : T - F = u := by omega
    rw [hu]
    constructor
    · rintro ⟨_, h1, h2, h3⟩
      exact ⟨i - p.a + p.b, ⟨trivial, by omega, by omega, by omega⟩, trivial, by omega, by omega, by omega⟩
    · rintro ⟨t, ⟨_, h1, h2, h3⟩, _, h4, h5, h6⟩
      exact ⟨rfl, by omega, by omega, by omega⟩
  · constructor
    · intro h; simp [exs] at h
    · rintro ⟨t, ⟨_, h1, h2, h3⟩, _, h4, h5, h6⟩
      omega

theorem both_spec (X Y : List Rn) (a b c d : Int) (hX : Chain a b X) (hY : Chain c d Y) :
    (∀ i j, (⟨i, j, 1⟩ : Rn) ∈ exs (bothR X Y) ↔ ∃ t, (⟨i, t, 1⟩ : Rn) ∈ exs X ∧ (⟨t, j, 1⟩ : Rn) ∈ exs Y) ∧ (∀ r ∈ bothR X Y, 0 < r.n) ∧ Up (exs (bothR X Y)) := by
  induction X, Y using bothR.induct generalizing a b c d with
  | case1 Y => rw [bothR]; exact ⟨by simp [exs], by simp, List.Pairwise.nil⟩
  | case2 p x => rw [bothR]; exact ⟨by simp [exs], by simp, List.Pairwise.nil⟩
  | case3 p x q y ih1 ih2 =>
    by_cases hto : min (p.b + p.n) (q.a + q.n) = p.b + p.n
    · have ih := ih1
      obtain ⟨x1, x2, x3, x4⟩ := hX
      have hY0 := hY
      obtain ⟨y1, y2, y3, y4⟩ := hY
      obtain ⟨i1, i2, i3⟩ := ih _ _ _ _ x4 hY0
      rw [bothR, if_pos hto]
      have hhead : ∀ i j, (⟨i, j, 1⟩ : Rn) ∈ exs (if max p.b q.a < min (p.b + p.n) (q.a + q.n) then [⟨p.a + (max p.b q.a - p.b), q.b + (max p.b q.a - q.a), min (p.b + p.n) (q.a + q.n) - max p.b q.a⟩] else []) ↔ ∃ t, (⟨i, t, 1⟩ : Rn) ∈ ex p ∧ (⟨t, j, 1⟩ : Rn) ∈ ex q := both_head p q x3 y3
      refine ⟨fun i j => ?_, fun r hr => ?_, ?_⟩
      · rw [exs_append, List.mem_append, hhead, i1]
        constructor
        · rintro (⟨t, h1, h2⟩ | ⟨t, h1, h2⟩)
          · exact ⟨t, by rw [exs_cons]; exact List.mem_append_left _ h1, by rw [exs_cons]; exact List.mem_append_left _ h2⟩
          · exact ⟨t, by rw [exs_cons]; exact List.mem_append_right _ h1, h2⟩
        · rintro ⟨t, h1, h2⟩
          rw [exs_cons, List.mem_append] at h1
          rcases h1 with h1 | h1
          · rw [exs_cons, List.mem_append] at h2
            rcases h2 with h2 | h2
            · exact .inl ⟨t, h1, h2⟩
            · rw [mem_ex] at h1
              have := y4.low _ h2
              dsimp only at h1 this
              omega
          · exact .inr ⟨t, h1, h2⟩
      · rw [List.mem_append] at hr
        rcases hr with hr | hr
        · split at hr
          · rw [List.mem_singleton] at hr
            subst hr
            dsimp only
            omega
          · simp at hr
        · exact i2 r hr
      · rw [exs_append]
        refine List.pairwise_append.2 ⟨?_, i3, fun r hr s hs => ?_⟩
        · split
          · rw [exs_one]; exact up_un _ _ _
          · exact List.Pairwise.nil
        · obtain ⟨i, j, z⟩ := r
          have hz : z = 1 := by
            split at hr
            · rw [exs_one, mem_ex] at hr; exact hr.1
            · simp [exs] at hr
          subst hz
          obtain ⟨t, h1, h2⟩ := (hhead i j).1 hr
          obtain ⟨i', j', z'⟩ := s
          have hz' : z' = 1 := by
            rw [mem_exs] at hs
            obtain ⟨p', _, hp⟩ := hs
            rw [mem_ex] at hp
            exact hp.1
          subst hz'
          obtain ⟨t', h3, h4⟩ := (i1 i' j').1 hs
          have l3 := x4.low _ h3
          rw [mem_ex] at h1
          dsimp only at h1 l3 ⊢
          refine ⟨by omega, ?_⟩
          have hc := up_cmp hY0.up ⟨t, j, 1⟩ (by rw [exs_cons]; exact List.mem_append_left _ h2) ⟨t', j', 1⟩ h4
          rcases hc with hc | hc | hc
          · cases hc; omega
          · exact hc.2
          · dsimp only at hc; omega
    · have ih := ih2
      have hX0 := hX
      obtain ⟨x1, x2, x3, x4⟩ := hX
      obtain ⟨y1, y2, y3, y4⟩ := hY
      obtain ⟨i1, i2, i3⟩ := ih _ _ _ _ hX0 y4
      rw [bothR, if_neg hto]
      have hhead : ∀ i j, (⟨i, j, 1⟩ : Rn) ∈ exs (if max p.b q.a < min (p.b + p.n) (q.a + q.n) then [⟨p.a + (max p.b q.a - p.b), q.b + (max p.b q.a - q.a), min (p.b + p.n) (q.a + q.n) - max p.b q.a⟩] else []) ↔ ∃ t, (⟨i, t, 1⟩ : Rn) ∈ ex p ∧ (⟨t, j, 1⟩ : Rn) ∈ ex q := both_head p q x3 y3
      refine ⟨fun i j => ?_, fun r hr => ?_, ?_⟩
      · rw [exs_append, List.mem_append, hhead, i1]
        constructor
        · rintro (⟨t, h1, h2⟩ | ⟨t, h1, h2⟩)
          · exact ⟨t, by rw [exs_cons]; exact List.mem_append_left _ h1, by rw [exs_cons]; exact List.mem_append_left _ h2⟩
          · exact ⟨t, h1, by rw [exs_cons]; exact List.mem_append_right _ h2⟩
        · rintro ⟨t, h1, h2⟩
          rw [exs_cons, List.mem_append] at h2
          rcases h2 with h2 | h2
          · rw [exs_cons, List.mem_append] at h1
            rcases h1 with h1 | h1
            · exact .inl ⟨t, h1, h2⟩
            · rw [mem_ex] at h2
              have := x4.low _ h1
              dsimp only at h2 this
              omega
          · exact .inr ⟨t, h1, h2⟩
      · rw [List.mem_append] at hr
        rcases hr with hr | hr
        · split at hr
          · rw [List.mem_singleton] at hr
            subst hr
            dsimp only
            omega
          · simp at hr
        · exact i2 r hr
      · rw [exs_append]
        refine List.pairwise_append.2 ⟨?_, i3, fun r hr s hs => ?_⟩
        · split
          · rw [exs_one]; exact up_un _ _ _
          · exact List.Pairwise.nil
        · obtain ⟨i, j, z⟩ := r
          have hz : z = 1 := by
            split at hr
            · rw [exs_one, mem_ex] at hr; exact hr.1
            · simp [exs] at hr
          subst hz
          obtain ⟨t, h1, h2⟩ := (hhead i j).1 hr
          obtain ⟨i', j', z'⟩ := s
          have hz' : z' = 1 := by
            rw [mem_exs] at hs
            obtain ⟨p', _, hp⟩ := hs
            rw [mem_ex] at hp
            exact hp.1
          subst hz'
          obtain ⟨t', h3, h4⟩ := (i1 i' j').1 hs
          have l4 := y4.low _ h4
          rw [mem_ex] at h2
          dsimp only at h2 l4 ⊢
          refine ⟨?_, by omega⟩
          have hc := up_cmp hX0.up ⟨i, t, 1⟩ (by rw [exs_cons]; exact List.mem_append_left _ h1) ⟨i', t', 1⟩ h3
          rcases hc with hc | hc | hc
          · cases hc; omega
          · exact hc.1
          · dsimp only at hc; omega

/-- the pairs of two scripts, one behind the other -/
def compP (x y : List Ch) (n m k : Int) : List Rn := exs (bothR (rns 0 0 n m x) (rns 0 0 m k y))
/-- two scripts, one behind the other -/
def compS (x y : List Ch) (n m k : Int) : List Ch := betw 0 0 (bothR (rns 0 0 n m x) (rns 0 0 m k y) ++ [⟨n, k, 0⟩])
section
variable {x y : List Ch} {n m k : Int}
theorem comp_spec (hx : Script x n m) (hy : Script y m k) : (∀ i j, (⟨i, j, 1⟩ : Rn) ∈ compP x y n m k ↔ ∃ t, (⟨i, t, 1⟩ : Rn) ∈ U 0 0 n m x ∧ (⟨t, j, 1⟩ : Rn) ∈ U 0 0 m k y) ∧ Up (compP x y n m k) ∧ compS x y n m k = betw 0 0 (compP x y n m k ++ [⟨n, k, 0⟩]) := by
  obtain ⟨h1, h2, h3⟩ := both_spec _ _ _ _ _ _ hx.2.2.chain hy.2.2.chain
  exact ⟨h1, h3, betw_exs _ _ _ h2 _⟩
theorem comp_unit : ∀ r ∈ compP x y n m k, r.n = 1 := by
  intro r hr
  unfold compP at hr
  rw [mem_exs] at hr
  obtain ⟨p, _, hp⟩ := hr
  rw [mem_ex] at hp
  exact hp.1
theorem comp_fit (hx : Script x n m) (hy : Script y m k) : Fit 0 0 n k (compP x y n m k) := by
  obtain ⟨h1, h2, _⟩ := comp_spec hx hy
  refine fit_of_up h2 (fun r hr => ?_) hx.1 hy.2.1
  have hu := comp_unit r hr
  obtain ⟨i, j, z⟩ := r
  dsimp only at hu
  subst hu
  obtain ⟨t, q1, q2⟩ := (h1 i j).1 hr
  have b1 := hx.2.2.bounds _ q1
  have b2 := hy.2.2.bounds _ q2
  dsimp only at b1 b2 ⊢
  omega
theorem comp_script (hx : Script x n m) (hy : Script y m k) (hn : n ≤ 2147483647) (hk : k ≤ 2147483647) : Script (compS x y n m k) n k ∧ U 0 0 n k (compS x y n m k) = compP x y n m k := by
  obtain ⟨_, _, h3⟩ := comp_spec hx hy
  rw [h3]
  have := fit_right (comp_fit hx hy) (Int.le_refl _) (Int.le_refl _) hn hk
  exact ⟨⟨hx.1, hy.2.1, this.1⟩, this.2⟩
end
theorem unit_ext {P Q : List Rn} (hP : UpA P) (hQ : UpA Q) (p1 : ∀ r ∈ P, r.n = 1) (q1 : ∀ r ∈ Q, r.n = 1) (h : ∀ i j, (⟨i, j, 1⟩ : Rn) ∈ P ↔ (⟨i, j, 1⟩ : Rn) ∈ Q) : P = Q := by
  refine upA_ext hP hQ fun r => ?_
  obtain ⟨i, j, z⟩ := r
  constructor
  · intro hr
    have : z = 1 := p1 _ hr
    subst this
    exact (h i j).1 hr
  · intro hr
    have : z = 1 := q1 _ hr
    subst this
    exact (h i j).2 hr
theorem U_unit {f : Bool} {a b n m : Int} {l : List Ch} (h : Right f a b n m l) : ∀ r ∈ U a b n m l, r.n = 1 := fun r hr => (h.bounds r hr).1
/-- putting together is associative -/
theorem comp_assoc {x y z : List Ch} {n m k o : Int} (hx : Script x n m) (hy : Script y m k) (hz : Script z k o) (hn : n ≤ 2147483647) (hm : m ≤ 2147483647) (hk : k ≤ 2147483647) (ho : o ≤ 2147483647) :
    compS (compS x y n m k) z n k o = compS x (compS y z m k o) n m o := by
  obtain ⟨s1, u1⟩ := comp_script hx hy hn hk
  obtain ⟨s2, u2⟩ := comp_script hy hz hm ho
  obtain ⟨m1, p1, e1⟩ := comp_spec s1 hz
  obtain ⟨m2, p2, e2⟩ := comp_spec hx s2
  rw [e1, e2]
  congr 2
  refine unit_ext p1.a p2.a comp_unit comp_unit fun i j => ?_
  rw [m1, m2, u1, u2]
  constructor
  · rintro ⟨t, h1, h2⟩
    obtain ⟨s, h3, h4⟩ := ((comp_spec hx hy).1 i t).1 h1
    exact ⟨s, h3, ((comp_spec hy hz).1 s j).2 ⟨t, h4, h2⟩⟩
  · rintro ⟨s, h3, h4⟩
    obtain ⟨t, h5, h6⟩ := ((comp_spec hy hz).1 s j).1 h4
    exact ⟨t, ((comp_spec hx hy).1 i t).2 ⟨s, h3, h5⟩, h6⟩
theorem nil_script {n : Int} (h : 0 ≤ n) : Script [] n n := ⟨h, h, h, h, rfl⟩
theorem comp_nil {x : List Ch} {n m : Int} (hx : Script x n m) : compS x [] n m m = x := by
  have hy := nil_script hx.2.1
  obtain ⟨m1, p1, e1⟩ := comp_spec hx hy
  rw [e1]
  have : compP x [] n m m = U 0 0 n m x := by
    refine unit_ext p1.a hx.2.2.up.a comp_unit (U_unit hx.2.2) fun i j => ?_
    rw [m1]
    constructor
    · rintro ⟨t, h1, h2⟩
      rw [U_nil, mem_un] at h2
      dsimp only at h2
      obtain rfl : t = j := by omega
      exact h1
    · intro h
      refine ⟨j, h, ?_⟩
      have := hx.2.2.bounds _ h
      rw [U_nil, mem_un]
      dsimp only at this ⊢
      omega
  rw [this, betw_U hx.2.2]
theorem nil_comp {x : List Ch} {n m : Int} (hx : Script x n m) : compS [] x n n m = x := by
  have hy := nil_script hx.1
  obtain ⟨m1, p1, e1⟩ := comp_spec hy hx
  rw [e1]
  have : compP [] x n n m = U 0 0 n m x := by
    refine unit_ext p1.a hx.2.2.up.a comp_unit (U_unit hx.2.2) fun i j => ?_
    rw [m1]
    constructor
    · rintro ⟨t, h1, h2⟩
      rw [U_nil, mem_un] at h1
      dsimp only at h1
      obtain rfl : t = i := by omega
      exact h2
    · intro h
      refine ⟨i, ?_, h⟩
      have := hx.2.2.bounds _ h
      rw [U_nil, mem_un]
      dsimp only at this ⊢
      omega
  rw [this, betw_U hx.2.2]

/-- two lists of what is kept, one behind the other -/
def compK (p q : List Int) : List Int := p.map fun z => if 0 ≤ z then q.getD z.toNat (-1) else -1
theorem compK_kept {x y : List Ch} {n m k : Int} (hx : Script x n m) (hy : Script y m k) : keptR 0 (compK (kr 0 0 n m x) (kr 0 0 m k y)) = compP x y n m k := by
  obtain ⟨m1, p1, _⟩ := comp_spec hx hy
  refine unit_ext (keptR_up _ _) p1.a (fun r hr => (mem_keptR.1 hr).1) comp_unit fun i j => ?_
  rw [m1]
  rw [← kr_kept hx.2.2 (Int.le_refl _), ← kr_kept hy.2.2 (Int.le_refl _)]
  simp only [mem_keptR]
  have hp := kr_each hx.2.2 (Int.le_refl _)
  have hq := kr_each hy.2.2 (Int.le_refl _)
  have hql := kr_length hy.2.2
  generalize kr 0 0 n m x = p at *
  generalize kr 0 0 m k y = q at *
  simp only [compK, List.getElem?_map, true_and, Int.sub_zero]
  constructor
  · rintro ⟨h1, h2, h3⟩
    cases hz : p[i.toNat]? with
    | none => rw [hz] at h2; simp at h2
    | some z =>
      rw [hz] at h2
      simp only [Option.map_some, Option.some_inj] at h2
      split at h2
      · rename_i h0
        refine ⟨z, ⟨h1, rfl, by omega⟩, h0, ?_, h3⟩
        rw [List.getD, ] at h2
        cases hq2 : q[z.toNat]? with
        | none => rw [hq2] at h2; simp at h2; omega
        | some w => rw [hq2] at h2; simp at h2; rw [h2]
      · omega
  · rintro ⟨t, ⟨h1, h2, h3⟩, h4, h5, h6⟩
    refine ⟨h1, ?_, h6⟩
    rw [h2]
    simp only [Option.map_some, Option.some_inj]
    rw [if_pos h4, List.getD, h5]
    rfl
end Go.Proofs.Yteplejpbgajecaa

/- Rising rows of pairs: how long the longest one is that begins with each member, heads of rows, what is picked: plain. -/
namespace Go.Proofs.Yteplejpbgajecaa

/-- a place of each text -/
structure Pr where
  X : Int
  Y : Int
/-- p may stand behind q in a rising row -/
abbrev ab (p q : Pr) : Prop := q.X < p.X ∧ q.Y < p.Y
theorem ab_trans {p q r : Pr} (h : ab p q) (h' : ab q r) : ab p r := ⟨Int.lt_trans h'.1 h.1, Int.lt_trans h'.2 h.2⟩
/-- the greatest length among those that may stand behind p -/
def mxl (p : Pr) : List Pr → List Nat → Nat
  | t :: ts, n :: ns => if ab t p then max n (mxl p ts ns) else mxl p ts ns
  | _, _ => 0
/-- how long the longest rising row is that begins with each member -/
def rl : List Pr → List Nat
  | [] => []
  | p :: t => (mxl p t (rl t) + 1) :: rl t
theorem rl_length (l : List Pr) : (rl l).length = l.length := by
  induction l with
  | nil => rfl
  | cons p t ih => simp [rl, ih]
theorem mxl_ge (p : Pr) (t : List Pr) (ns : List Nat) (k : Nat) (q : Pr) (n : Nat) (hq : t[k]? = some q) (hn : ns[k]? = some n) (ha : ab q p) : n ≤ mxl p t ns := by
  induction t generalizing ns k with
  | nil => simp at hq
  | cons a t ih =>
    cases ns with
    | nil => simp at hn
    | cons b ns =>
      rw [mxl]
      cases k with
      | zero =>
        simp at hq hn
        subst hq hn
        rw [if_pos ha]
        omega
      | succ k =>
        have := ih ns k (by simpa using hq) (by simpa using hn)
        split <;> omega
theorem mxl_at (p : Pr) (t : List Pr) (ns : List Nat) (h : 0 < mxl p t ns) : ∃ (k : Nat) (q : Pr), t[k]? = some q ∧ ns[k]? = some (mxl p t ns) ∧ ab q p := by
  induction t generalizing ns with
  | nil => simp [mxl] at h
  | cons a t ih =>
    cases ns with
    | nil => simp [mxl] at h
    | cons b ns =>
      rw [mxl] at h ⊢
      by_cases ha : ab a p
      · rw [if_pos ha] at h ⊢
        by_cases hb : mxl p t ns ≤ b
        · exact ⟨0, a, rfl, by simp; omega, ha⟩
        · obtain ⟨k, q, h1, h2, h3⟩ := ih ns (by omega)
          exact ⟨k + 1, q, by simpa using h1, by simp [h2]; omega, h3⟩
      · rw [if_neg ha] at h ⊢
        obtain ⟨k, q, h1, h2, h3⟩ := ih ns h
        exact ⟨k + 1, q, by simpa using h1, by simpa using h2, h3⟩
/-- a row of n + 1 members may stand behind p -/
def Hd (t : List Pr) (n : Nat) (p : Pr) : Prop := ∃ (k : Nat) (q : Pr), t[k]? = some q ∧ (rl t)[k]? = some (n + 1) ∧ ab q p
theorem Hd.down {t : List Pr} {n : Nat} {p : Pr} (h : Hd t (n + 1) p) : Hd t n p := by
  obtain ⟨k, q, h1, h2, h3⟩ := h
  induction t generalizing k with
  | nil => simp at h1
  | cons a t ih =>
    cases k with
    | zero =>
      simp [rl] at h1 h2
      subst h1
      obtain ⟨j, r, g1, g2, g3⟩ := mxl_at a t (rl t) (by omega)
      exact ⟨j + 1, r, by simpa using g1, by simp [rl, g2, h2], ab_trans g3 h3⟩
    | succ k =>
      obtain ⟨j, r, g1, g2, g3⟩ := ih k (by simpa using h1) (by simpa [rl] using h2)
      exact ⟨j + 1, r, by simpa using g1, by simpa [rl] using g2, g3⟩
theorem Hd.downs {t : List Pr} {n m : Nat} {p : Pr} (h : Hd t n p) (hm : m ≤ n) : Hd t m p := by
  induction n with
  | zero => obtain rfl : m = 0 := by omega
            exact h
  | succ n ih =>
    by_cases e : m = n + 1
    · subst e; exact h
    · exact ih h.down (by omega)
/-- X falls, Y rises, each of which may stay -/
def Stair (h : List Pr) : Prop := h.Pairwise fun a b => b.X ≤ a.X ∧ a.Y ≤ b.Y
/-- the heads of rows of each length, for what stands behind -/
structure Hds (t : List Pr) (H : List (List Pr)) : Prop where
  st : ∀ h ∈ H, Stair h
  eq : ∀ n h, H[n]? = some h → ∀ p, (∃ a ∈ h, ab a p) ↔ Hd t n p
  top : ∀ n ∈ rl t, n ≤ H.length
theorem Hds.start : Hds [] [] := ⟨by simp, by simp, by simp [rl]⟩
theorem Hds.beyond {t : List Pr} {H : List (List Pr)} (h : Hds t H) {n : Nat} (hn : H.length ≤ n) (p : Pr) : ¬ Hd t n p := by
  rintro ⟨k, q, h1, h2, h3⟩
  have := h.top (n + 1) (List.mem_of_getElem? h2)
  omega
/-- the first that is not behind p: so long is the longest row behind p -/
theorem mxl_of {t : List Pr} {H : List (List Pr)} (_h : Hds t H) {p : Pr} {n : Nat} (h1 : ∀ m, m < n → Hd t m p) (h2 : ¬ Hd t n p) : mxl p t (rl t) = n := by
  have hle : mxl p t (rl t) ≤ n := by
    by_cases hc : mxl p t (rl t) ≤ n
    · exact hc
    · exfalso
      obtain ⟨k, q, g1, g2, g3⟩ := mxl_at p t (rl t) (by omega)
      have : Hd t (mxl p t (rl t) - 1) p := ⟨k, q, g1, by rw [g2]; congr 1; omega, g3⟩
      exact h2 (this.downs (by omega))
  cases n with
  | zero => omega
  | succ n =>
    obtain ⟨k, q, g1, g2, g3⟩ := h1 n (Nat.lt_succ_self n)
    have := mxl_ge p t (rl t) k q (n + 1) g1 g2 g3
    omega
/-- how many of the heads have a greater X -/
def upto (h : List Pr) (x : Int) : Nat := h.findIdx fun a => decide (a.X ≤ x)
/-- how many of the heads have no greater Y -/
def grt (h : List Pr) (y : Int) : Nat := h.findIdx fun a => decide (y < a.Y)
/-- the heads and p -/
def ins (h : List Pr) (p : Pr) : List Pr := h.take (upto h p.X) ++ p :: h.drop (grt h p.Y)
theorem upto_le (h : List Pr) (x : Int) : upto h x ≤ h.length := List.findIdx_le_length
theorem grt_le (h : List Pr) (y : Int) : grt h y ≤ h.length := List.findIdx_le_length
theorem upto_lt {h : List Pr} {x : Int} {i : Nat} (hi : i < upto h x) (hl : i < h.length) : x < h[i].X := by
  have := List.not_of_lt_findIdx (p := fun a : Pr => decide (a.X ≤ x)) (xs := h) hi
  simpa using this
theorem upto_ge {h : List Pr} (hs : Stair h) {x : Int} {i : Nat} (hi : upto h x ≤ i) (hl : i < h.length) : h[i].X ≤ x := by
  have h0 : upto h x < h.length := by omega
  have h1 : h[upto h x].X ≤ x := of_decide_eq_true (List.findIdx_getElem (p := fun a : Pr => decide (a.X ≤ x)) (xs := h) (w := h0))
  by_cases e : upto h x = i
  · simpa [e] using h1
  · have := (List.pairwise_iff_getElem.1 hs) (upto h x) i h0 hl (by omega)
    omega
theorem grt_lt {h : List Pr} {y : Int} {i : Nat} (hi : i < grt h y) (hl : i < h.length) : h[i].Y ≤ y := by
  have := List.not_of_lt_findIdx (p := fun a : Pr => decide (y < a.Y)) (xs := h) hi
  simpa using this
theorem grt_ge {h : List Pr} (hs : Stair h) {y : Int} {i : Nat} (hi : grt h y ≤ i) (hl : i < h.length) : y < h[i].Y := by
  have h0 : grt h y < h.length := by omega
  have h1 : y < h[grt h y].Y := of_decide_eq_true (List.findIdx_getElem (p := fun a : Pr => decide (y < a.Y)) (xs := h) (w := h0))
  by_cases e : grt h y = i
  · simpa [e] using h1
  · have := (List.pairwise_iff_getElem.1 hs) (grt h y) i h0 hl (by omega)
    omega
/-- one of the heads may stand behind p just if the last one with a great enough X does -/
theorem behind_iff {h : List Pr} (hs : Stair h) (p : Pr) : (∃ a ∈ h, ab a p) ↔ 0 < upto h p.X ∧ ∃ a, h[upto h p.X - 1]? = some a ∧ p.Y < a.Y := by
  constructor
  · rintro ⟨a, ha, h1, h2⟩
    obtain ⟨i, hi, rfl⟩ := List.getElem_of_mem ha
    have hlt : i < upto h p.X := by
      by_cases c : i < upto h p.X
      · exact c
      · have := upto_ge hs (x := p.X) (i := i) (by omega) hi; omega
    have hle := upto_le h p.X
    refine ⟨by omega, h[upto h p.X - 1], List.getElem?_eq_getElem (by omega), ?_⟩
    by_cases e : i = upto h p.X - 1
    · simpa [← e] using h2
    · have := (List.pairwise_iff_getElem.1 hs) i (upto h p.X - 1) hi (by omega) (by omega)
      omega
  · rintro ⟨h0, a, ha, h1⟩
    obtain ⟨hl, rfl⟩ := List.getElem?_eq_some_iff.1 ha
    exact ⟨_, List.getElem_mem _, upto_lt (by omega) hl, h1⟩
theorem upto_grt {h : List Pr} (hs : Stair h) {p : Pr} (hn : ¬ ∃ a ∈ h, ab a p) : upto h p.X ≤ grt h p.Y := by
  by_cases c : upto h p.X ≤ grt h p.Y
  · exact c
  · exfalso
    have hl := upto_le h p.X
    exact hn ⟨h[grt h p.Y]'(by omega), List.getElem_mem _, upto_lt (by omega) (by omega), grt_ge hs (Nat.le_refl _) (by omega)⟩
theorem ins_stair {h : List Pr} (hs : Stair h) {p : Pr} (hn : ¬ ∃ a ∈ h, ab a p) : Stair (ins h p) := by
  unfold ins Stair
  rw [List.pairwise_append]
  refine ⟨hs.take, ?_, ?_⟩
  · rw [List.pairwise_cons]
    refine ⟨fun a ha => ?_, hs.drop⟩
    obtain ⟨i, hi, rfl⟩ := List.getElem_of_mem ha
    rw [List.length_drop] at hi
    rw [List.getElem_drop]
    have hug := upto_grt hs hn
    exact ⟨upto_ge hs (by omega) (by omega), Int.le_of_lt (grt_ge hs (by omega) (by omega))⟩
  · intro a ha b hb
    obtain ⟨i, hi, rfl⟩ := List.getElem_of_mem ha
    rw [List.length_take] at hi
    rw [List.getElem_take]
    have h1 := upto_lt (h := h) (x := p.X) (i := i) (by omega) (by omega)
    rw [List.mem_cons] at hb
    rcases hb with hb | hb
    · rw [hb]
      refine ⟨Int.le_of_lt h1, ?_⟩
      by_cases c : h[i].Y ≤ p.Y
      · exact c
      · exact absurd ⟨h[i], List.getElem_mem _, h1, by omega⟩ hn
    · obtain ⟨j, hj, rfl⟩ := List.getElem_of_mem hb
      rw [List.length_drop] at hj
      rw [List.getElem_drop]
      have hug := upto_grt hs hn
      exact (List.pairwise_iff_getElem.1 hs) i (grt h p.Y + j) (by omega) (by omega) (by omega)
theorem ins_ab {h : List Pr} (hs : Stair h) {p : Pr} (hn : ¬ ∃ a ∈ h, ab a p) (q : Pr) : (∃ a ∈ ins h p, ab a q) ↔ ab p q ∨ ∃ a ∈ h, ab a q := by
  constructor
  · rintro ⟨a, ha, hq⟩
    unfold ins at ha
    rw [List.mem_append, List.mem_cons] at ha
    rcases ha with ha | rfl | ha
    · exact .inr ⟨a, List.mem_of_mem_take ha, hq⟩
    · exact .inl hq
    · exact .inr ⟨a, List.mem_of_mem_drop ha, hq⟩
  · rintro (hq | ⟨a, ha, hq⟩)
    · exact ⟨p, by simp [ins], hq⟩
    · obtain ⟨i, hi, rfl⟩ := List.getElem_of_mem ha
      by_cases c1 : i < upto h p.X
      · refine ⟨h[i], ?_, hq⟩
        unfold ins
        rw [List.mem_append]
        left
        rw [List.mem_take_iff_getElem]
        exact ⟨i, by omega, rfl⟩
      · by_cases c2 : i < grt h p.Y
        · have h1 := upto_ge hs (x := p.X) (i := i) (by omega) hi
          have h2 := grt_lt (y := p.Y) (i := i) c2 hi
          have := hq.1
          have := hq.2
          exact ⟨p, by simp [ins], by unfold ab; omega⟩
        · refine ⟨h[i], ?_, hq⟩
          unfold ins
          rw [List.mem_append, List.mem_cons]
          right; right
          rw [List.mem_drop_iff_getElem]
          exact ⟨i - grt h p.Y, by omega, by congr 1; omega⟩
/-- one more list of heads, where there is none yet -/
def room (H : List (List Pr)) (n : Nat) : List (List Pr) := if n = H.length then H ++ [[]] else H
theorem Hds.step {t : List Pr} {H : List (List Pr)} (h : Hds t H) {p : Pr} {n : Nat} (hn : n ≤ H.length) (h1 : ∀ m, m < n → Hd t m p) (h2 : ¬ Hd t n p) (g : List Pr) (hg : (room H n)[n]? = some g) :
    Hds (p :: t) ((room H n).set n (ins g p)) ∧ rl (p :: t) = (n + 1) :: rl t ∧ Stair g ∧ ¬ ∃ a ∈ g, ab a p := by
  have hm := mxl_of h h1 h2
  have hr : rl (p :: t) = (n + 1) :: rl t := by rw [rl, hm]
  have hgs : Stair g ∧ ∀ q, (∃ a ∈ g, ab a q) ↔ Hd t n q := by
    unfold room at hg
    by_cases e : n = H.length
    · rw [if_pos e, e, List.getElem?_append_right (Nat.le_refl _)] at hg
      simp at hg
      subst hg
      exact ⟨List.Pairwise.nil, fun q => ⟨by simp, fun hh => absurd hh (h.beyond (by omega) q)⟩⟩
    · rw [if_neg e] at hg
      exact ⟨h.st g (List.mem_of_getElem? hg), h.eq n g hg⟩
  have hna : ¬ ∃ a ∈ g, ab a p := fun c => h2 ((hgs.2 p).1 c)
  have hlen : H.length ≤ (room H n).length ∧ n < (room H n).length := by unfold room; split <;> simp <;> omega
  refine ⟨⟨?_, ?_, ?_⟩, hr, hgs.1, hna⟩
  · intro k hk
    rcases List.mem_or_eq_of_mem_set hk with hk | rfl
    · unfold room at hk
      split at hk
      · rw [List.mem_append, List.mem_singleton] at hk
        rcases hk with hk | rfl
        · exact h.st k hk
        · exact List.Pairwise.nil
      · exact h.st k hk
    · exact ins_stair hgs.1 hna
  · intro m k hk q
    by_cases e : m = n
    · subst e
      rw [List.getElem?_set_self hlen.2] at hk
      cases hk
      rw [ins_ab hgs.1 hna, hgs.2]
      constructor
      · rintro (hq | ⟨j, r, g1, g2, g3⟩)
        · exact ⟨0, p, rfl, by rw [hr]; rfl, hq⟩
        · exact ⟨j + 1, r, by simpa using g1, by rw [hr]; simpa using g2, g3⟩
      · rintro ⟨j, r, g1, g2, g3⟩
        cases j with
        | zero => simp at g1; subst g1; exact .inl g3
        | succ j => exact .inr ⟨j, r, by simpa using g1, by rw [hr] at g2; simpa using g2, g3⟩
    · rw [List.getElem?_set_ne (fun e' => e e'.symm)] at hk
      have hk' : H[m]? = some k := by
        unfold room at hk
        split at hk
        · by_cases hml : m < H.length
          · rwa [List.getElem?_append_left hml] at hk
          · have := (List.getElem?_eq_some_iff.1 hk).1
            simp at this
            omega
        · exact hk
      rw [h.eq m k hk']
      constructor
      · rintro ⟨j, r, g1, g2, g3⟩
        exact ⟨j + 1, r, by simpa using g1, by rw [hr]; simpa using g2, g3⟩
      · rintro ⟨j, r, g1, g2, g3⟩
        cases j with
        | zero => rw [hr] at g2; simp at g2; omega
        | succ j => exact ⟨j, r, by simpa using g1, by rw [hr] at g2; simpa using g2, g3⟩
  · intro m hm'
    rw [hr, List.mem_cons] at hm'
    rw [List.length_set]
    rcases hm' with rfl | hm'
    · omega
    · have := h.top m hm'
      omega
/-- what is picked: the next member of a longest row, from the front -/
def pick : Nat → Option Pr → List Pr → List Nat → List Pr
  | left, last, p :: l, n :: ns => if n = left ∧ (∀ q, last = some q → ab p q) then p :: pick (left - 1) (some p) l ns else pick left last l ns
  | _, _, _, _ => []
/-- the greatest number -/
def mxn : List Nat → Nat
  | [] => 0
  | n :: ns => max n (mxn ns)
/-- a longest rising row -/
def lng (l : List Pr) : List Pr := pick (mxn (rl l)) none l (rl l)
end Go.Proofs.Yteplejpbgajecaa

/- Rows of pairs in memory: two cells a pair. -/
namespace Go.Proofs.Yteplejpbgajecaa
open Go.RowKit

def prV (p : Pr) : Value := .agg #[.int .i64 p.X, .int .i64 p.Y]
def prC (p : Pr) : List Value := [.int .i64 p.X, .int .i64 p.Y]
def prcells (l : List Pr) : List Value := l.flatMap prC
theorem infoPr : (Try.prog.info? 40).map (fun i => (i.zero, i.size, i.bytes)) = some (some (.agg #[.int .i64 0, .int .i64 0]), 2, 16) := by kernel_rfl
theorem infoQr : (Try.prog.info? 39).map (fun i => (i.zero, i.size, i.bytes)) = some (some (.agg #[.int .i64 0, .int .i64 0]), 2, 16) := by kernel_rfl
theorem prcells_length (l : List Pr) : (prcells l).length = l.length * 2 := by
  induction l with
  | nil => rfl
  | cons p t ih => simp only [prcells, List.flatMap_cons, List.length_append, List.length_cons, prC, List.length_nil] at ih ⊢; omega
theorem prcells_append (a b : List Pr) : prcells (a ++ b) = prcells a ++ prcells b := by simp [prcells]
theorem prcells_one (l : List Pr) : ∀ u ∈ prcells l, u.oneCell' = true := by
  intro u hu
  simp only [prcells, List.mem_flatMap] at hu
  obtain ⟨p, _, hp⟩ := hu
  simp [prC] at hp
  rcases hp with rfl | rfl <;> rfl
theorem prcells_at (l : List Pr) (k : Nat) (hk : k < l.length) : (prcells l)[2 * k]? = some (.int .i64 l[k].X) ∧ (prcells l)[2 * k + 1]? = some (.int .i64 l[k].Y) := by
  induction l generalizing k with
  | nil => simp at hk
  | cons p t ih =>
    have e : prcells (p :: t) = .int .i64 p.X :: .int .i64 p.Y :: prcells t := rfl
    cases k with
    | zero => rw [e]; exact ⟨rfl, rfl⟩
    | succ k =>
      have := ih k (by simpa using hk)
      rw [e, show 2 * (k + 1) = 2 * k + 1 + 1 by omega]
      simpa using this
theorem prcells_take (l : List Pr) (k : Nat) : prcells (l.take k) = (prcells l).take (2 * k) := by
  induction l generalizing k with
  | nil => simp [prcells]
  | cons p t ih =>
    cases k with
    | zero => simp [prcells]
    | succ k =>
      have e : prcells (p :: t) = .int .i64 p.X :: .int .i64 p.Y :: prcells t := rfl
      have e2 : prcells ((p :: t).take (k + 1)) = .int .i64 p.X :: .int .i64 p.Y :: prcells (t.take k) := rfl
      rw [e, e2, ih, show 2 * (k + 1) = 2 * k + 1 + 1 by omega]
      rfl
theorem prcells_drop (l : List Pr) (k : Nat) : prcells (l.drop k) = (prcells l).drop (2 * k) := by
  induction l generalizing k with
  | nil => simp [prcells]
  | cons p t ih =>
    cases k with
    | zero => simp
    | succ k =>
      have e : prcells (p :: t) = .int .i64 p.X :: .int .i64 p.Y :: prcells t := rfl
      rw [e, List.drop_succ_cons, ih, show 2 * (k + 1) = 2 * k + 1 + 1 by omega]
      rfl
def HPr (w : World) (v : Value) (l : List Pr) : Prop := Holds w v l.length (prcells l)
theorem HPr.keep {w w' : World} {v : Value} {l : List Pr} (h : HPr w v l) {N : Nat} (hk : Below N w w') (hN : w.heap.size ≤ N) : HPr w' v l := Holds.keep h fun k hk' => hk.block k (by omega)
theorem HPr.at {w : World} {ao : Option Addr} {n c : Nat} {l : List Pr} (h : HPr w (.slice ao n c) l) (h0 : 0 < l.length) : ∃ b off, ao = some ⟨b, off, none⟩ ∧ b < w.heap.size ∧
    ∀ k (hk : k < l.length), w.cell? ⟨b, off + k * 2, none⟩ = some (.int .i64 l[k].X) ∧ w.cell? ⟨b, off + k * 2 + 1, none⟩ = some (.int .i64 l[k].Y) := by
  obtain ⟨b, off, c', hv, hb, hc⟩ := Holds.at h (by rw [prcells_length]; omega)
  cases hv
  refine ⟨b, off, rfl, hb, fun k hk => ?_⟩
  obtain ⟨h1, h2⟩ := prcells_at l k hk
  obtain ⟨l1, e1⟩ := List.getElem?_eq_some_iff.1 h1
  obtain ⟨l2, e2⟩ := List.getElem?_eq_some_iff.1 h2
  have g1 := hc _ l1
  have g2 := hc _ l2
  rw [e1] at g1
  rw [e2] at g2
  rw [show k * 2 = 2 * k by omega, Nat.add_assoc]
  exact ⟨g1, g2⟩
end Go.Proofs.Yteplejpbgajecaa

/- Laws for rows of pairs within their block: copy, clear, append with room, parts of a slice. -/
namespace Go.Proofs.Yteplejpbgajecaa
open Go.RowKit

/-- a block of pairs -/
def Blk (w : World) (g : Nat) (cur : List Value) : Prop := w.heap[g]? = some (.cells cur.toArray 40 (0, 0))
/-- cells put over others -/
def spl (cur : List Value) (o : Nat) (cs : List Value) : List Value := cur.take o ++ cs ++ cur.drop (o + cs.length)
theorem spl_length {cur : List Value} {o : Nat} {cs : List Value} (h : o + cs.length ≤ cur.length) : (spl cur o cs).length = cur.length := by
  unfold spl
  simp
  omega
theorem spl_take {cur : List Value} {o : Nat} {cs : List Value} (h : o + cs.length ≤ cur.length) (k : Nat) (hk : k = o + cs.length) : (spl cur o cs).take k = cur.take o ++ cs := by
  unfold spl
  subst hk
  rw [List.take_left' (by simp; omega)]
theorem Blk.cell {w : World} {g : Nat} {cur : List Value} (h : Blk w g cur) (j : Nat) : w.cell? ⟨g, j, none⟩ = cur[j]? := by
  rw [cell_of_row w g j cur.toArray _ (0, 0) h]
  simp
theorem size_of_pr : ∀ u : World, (sizeOf 40).run Try.prog u = .ok 2 u := fun u => by kernel_rfl
theorem setRow_grown (w : World) (g : Nat) (cs : Array Value) : w.grownBy (w.setRow g cs) (some g) :=
  ⟨rfl, rfl, rfl, by simp [World.setRow], fun k _ hk => setRow_other w g k cs (fun e => hk (by rw [e]))⟩

theorem run_copy_pr {T T' : TypeId} (hT : Try.prog.underlying T = some (.slice 40)) (w : World) (ty : TypeId) (g o dLen dCap : Nat) (a : Addr) (sLen sCap : Nat) (cur cs : List Value) (k : Nat)
    (hg : Blk w g cur) (hk : Nat.min sLen dLen = k) (hn : cs.length = k * 2) (hsrc : ∀ j v, cs[j]? = some v → w.cell? (a.add j) = some v) (hfit : o + cs.length ≤ cur.length) (h1 : ∀ v ∈ cs, v.oneCell' = true) :
    (Builtin.copy_ #[T, T'] ty #[.slice (some ⟨g, o, none⟩) dLen dCap, .slice (some a) sLen sCap]).run Try.prog w = .ok (goInt k) (w.setRow g (spl cur o cs).toArray) := by
  have hl := run_loadCells_list (P := Try.prog) w a cs hsrc
  have hst := run_storeCells_at Try.prog g o _ cs 0 cur.toArray w hg (by simpa using hfit) h1
  have hz := size_of_pr w
  rw [hn] at hl
  simp [Builtin.copy_, run_underlying hT, Builtin.lenOf, Builtin.firstCells, hz, hk, hl, hst, spl]
theorem run_clear_pr {T : TypeId} (hT : Try.prog.underlying T = some (.slice 40)) (w : World) (ty : TypeId) (g o n c : Nat) (cur : List Value) (hg : Blk w g cur) (hfit : o + n * 2 ≤ cur.length) :
    ∃ u, (Builtin.clear_ #[T] ty #[.slice (some ⟨g, o, none⟩) n c]).run Try.prog w = .ok (.tuple #[]) u ∧ w.grownBy u (some g) ∧ ∃ cur' : List Value, Blk u g cur' ∧ cur'.length = cur.length ∧ cur'.take o = cur.take o := by
  cases n with
  | zero => exact ⟨w, by simp [Builtin.clear_, run_underlying hT], World.grownBy.refl _ _, cur, hg, rfl, rfl⟩
  | succ n =>
    obtain ⟨zs, hzs⟩ : ∃ zs : List Value, (Builtin.zeroCells (Value.agg #[.int .i64 0, .int .i64 0]).cells (n + 1)).toList = zs := ⟨_, rfl⟩
    have hzl : zs.length = (n + 1) * 2 := by rw [← hzs]; simp [Builtin.zeroCells, Value.cells]
    have hz1 : ∀ v ∈ zs, v.oneCell' = true := by
      intro v hv
      rw [← hzs] at hv
      simp [Builtin.zeroCells, Value.cells] at hv
      obtain ⟨k, hk, rfl⟩ := hv
      have : k % 2 = 0 ∨ k % 2 = 1 := by omega
      rcases this with h | h <;> simp [h] <;> rfl
    have hst := run_storeCells_at Try.prog g o _ zs 0 cur.toArray w hg (by simp; omega) hz1
    have hzv : (zeroValue 40).run Try.prog w = .ok (.agg #[.int .i64 0, .int .i64 0]) w := by
      obtain ⟨i0, hi, hz0, _, _⟩ := info_parts infoPr
      simp [zeroValue, typeInfo, hi, hz0]
    refine ⟨w.setRow g (spl cur o zs).toArray, ?_, setRow_grown _ _ _, _, setRow_heap w g _ _ _ _ hg, spl_length (by omega), ?_⟩
    · simp [Builtin.clear_, run_underlying hT, hzv, hzs, hst, spl]
    · unfold spl
      rw [List.append_assoc, List.take_left' (by simp; omega)]
theorem run_append_types {T T' : TypeId} (hT : Try.prog.underlying T = some (.slice 40)) (hT' : Try.prog.underlying T' = some (.slice 40)) (ty : TypeId) (ao bo : Option Addr) (n c m d : Nat) (w : World) : (Builtin.append_ #[T, T'] ty #[.slice ao n c, .slice bo m d]).run Try.prog w = (Builtin.append_ #[T, T] ty #[.slice ao n c, .slice bo m d]).run Try.prog w := by
  have h1 := run_underlying hT
  have h2 := run_underlying hT'
  unfold Builtin.append_
  simp [h1, h2]
theorem run_append_room {T T' : TypeId} (hT : Try.prog.underlying T = some (.slice 40)) (hT' : Try.prog.underlying T' = some (.slice 40)) (w : World) (ty : TypeId) (g n cap : Nat) (a : Addr) (m c : Nat) (cur cs : List Value)
    (hg : Blk w g cur) (hroom : n + m ≤ cap) (hn : cs.length = m * 2) (hsrc : ∀ j v, cs[j]? = some v → w.cell? (a.add j) = some v) (hfit : n * 2 + cs.length ≤ cur.length) (h1 : ∀ v ∈ cs, v.oneCell' = true) :
    (Builtin.append_ #[T, T'] ty #[.slice (some ⟨g, 0, none⟩) n cap, .slice (some a) m c]).run Try.prog w = .ok (.slice (some ⟨g, 0, none⟩) (n + m) cap) (w.setRow g (spl cur (n * 2) cs).toArray) := by
  have hl := run_loadCells_list (P := Try.prog) w a cs hsrc
  have hst := run_storeCells_at Try.prog g (n * 2) _ cs 0 cur.toArray w hg (by simpa using hfit) h1
  have hz := size_of_pr w
  rw [hn] at hl
  have h1 := run_underlying hT
  have h2 := run_underlying hT'
  simp [Builtin.append_, h1, h2, Builtin.lenOf, Builtin.firstCells, hz, hl, hroom, add_none, hst, spl]

theorem wpList_cp {ops : Array Oper} {rest : List Oper} {o : Oper} {a : Act} {Q : Exit → Act → World → Prop} (w : World) (hw : Region.wanted o (yielded ops a.tmps) = true) (d s : Operand) (T T' : TypeId)
    (ho : o.op = .call { callee := .builtin .copy, args := #[d, s], argTypes := #[T, T'] }) (v u : Value) (hd : a.eval d = v) (hs : a.eval s = u) (v' : Value) (w' : World)
    (hr : (Builtin.copy_ #[T, T'] o.type #[v, u]).run Try.prog w = .ok v' w') (h : wpList Try.prog ops Q rest (a.put o.dst v') w') : wpList Try.prog ops Q (o :: rest) a w := by
  refine wpList_step fun K hK => ?_
  rw [if_pos hw]
  unfold Oper.wp
  simp [execOp, ho, resolve, invoke, builtin, hd, hs, hr, Result.andThen]
  exact hK _ _ h
theorem step_cp {ops : Array Oper} {o : Oper} {a : Act} {K : Act → World → Prop} {Q : Exit → Act → World → Prop} {X : Prop} (w : World) (hgd : o.guard = none) (d s : Operand) (T T' : TypeId)
    (ho : o.op = .call { callee := .builtin .copy, args := #[d, s], argTypes := #[T, T'] }) (v u : Value) (hd : a.eval d = v) (hs : a.eval s = u) (v' : Value) (w' : World)
    (hr : (Builtin.copy_ #[T, T'] o.type #[v, u]).run Try.prog w = .ok v' w') (h : K (a.put o.dst v') w') : if Region.wanted o (yielded ops a.tmps) = true then Oper.wp Try.prog o a w K Q else X := by
  have hw : Region.wanted o (yielded ops a.tmps) = true := by simp [Region.wanted, hgd]
  rw [if_pos hw]
  unfold Oper.wp
  simp [execOp, ho, resolve, invoke, builtin, hd, hs, hr, Result.andThen]
  exact h
theorem wpList_ap {ops : Array Oper} {rest : List Oper} {o : Oper} {a : Act} {Q : Exit → Act → World → Prop} (w : World) (hw : Region.wanted o (yielded ops a.tmps) = true) (d s : Operand) (T T' : TypeId)
    (ho : o.op = .call { callee := .builtin .append, args := #[d, s], argTypes := #[T, T'] }) (v u : Value) (hd : a.eval d = v) (hs : a.eval s = u) (v' : Value) (w' : World)
    (hr : (Builtin.append_ #[T, T'] o.type #[v, u]).run Try.prog w = .ok v' w') (h : wpList Try.prog ops Q rest (a.put o.dst v') w') : wpList Try.prog ops Q (o :: rest) a w := by
  refine wpList_step fun K hK => ?_
  rw [if_pos hw]
  unfold Oper.wp
  simp [execOp, ho, resolve, invoke, builtin, hd, hs, hr, Result.andThen]
  exact hK _ _ h
theorem step_ap {ops : Array Oper} {o : Oper} {a : Act} {K : Act → World → Prop} {Q : Exit → Act → World → Prop} {X : Prop} (w : World) (hgd : o.guard = none) (d s : Operand) (T T' : TypeId)
    (ho : o.op = .call { callee := .builtin .append, args := #[d, s], argTypes := #[T, T'] }) (v u : Value) (hd : a.eval d = v) (hs : a.eval s = u) (v' : Value) (w' : World)
    (hr : (Builtin.append_ #[T, T'] o.type #[v, u]).run Try.prog w = .ok v' w') (h : K (a.put o.dst v') w') : if Region.wanted o (yielded ops a.tmps) = true then Oper.wp Try.prog o a w K Q else X := by
  have hw : Region.wanted o (yielded ops a.tmps) = true := by simp [Region.wanted, hgd]
  rw [if_pos hw]
  unfold Oper.wp
  simp [execOp, ho, resolve, invoke, builtin, hd, hs, hr, Result.andThen]
  exact h
theorem wpList_cl {ops : Array Oper} {rest : List Oper} {o : Oper} {a : Act} {Q : Exit → Act → World → Prop} (w : World) (hw : Region.wanted o (yielded ops a.tmps) = true) (d : Operand) (T : TypeId)
    (ho : o.op = .call { callee := .builtin .clear, args := #[d], argTypes := #[T] }) (v : Value) (hd : a.eval d = v) (v' : Value) (w' : World)
    (hr : (Builtin.clear_ #[T] o.type #[v]).run Try.prog w = .ok v' w') (h : wpList Try.prog ops Q rest (a.put o.dst v') w') : wpList Try.prog ops Q (o :: rest) a w := by
  refine wpList_step fun K hK => ?_
  rw [if_pos hw]
  unfold Oper.wp
  simp [execOp, ho, resolve, invoke, builtin, hd, hr, Result.andThen]
  exact hK _ _ h

/-- s[l:] -/
theorem sl_from {T : TypeId} (hT : Try.prog.underlying T = some (.slice 40)) (he : Try.prog.elem T = 40) (g n cap l : Nat) (hl : l ≤ n) (hc : l < cap) (u : World) : (Instr.slice T (.slice (some ⟨g, 0, none⟩) n cap) (some (.int .i64 (l : Int))) none none).run Try.prog u = .ok (.slice (some ⟨g, l * 2, none⟩) (n - l) (cap - l)) u := by
  rw [run_slice_l (P := Try.prog) u T (some ⟨g, 0, none⟩) n cap (by rw [hT, ← he]) .i64 l (by omega) (by omega), he, size_of_pr]
  simp only [Result.andThen, sliced, Option.map_some, add_none]
  rw [if_neg (by omega)]
  simp
/-- s[:h] -/
theorem sl_to {T : TypeId} (hT : Try.prog.underlying T = some (.slice 40)) (he : Try.prog.elem T = 40) (g n cap h : Nat) (hc : h ≤ cap) (u : World) : (Instr.slice T (.slice (some ⟨g, 0, none⟩) n cap) none (some (.int .i64 (h : Int))) none).run Try.prog u = .ok (.slice (some ⟨g, 0, none⟩) h cap) u := by
  rw [run_slice_h (P := Try.prog) u T (some ⟨g, 0, none⟩) n cap (by rw [hT, ← he]) .i64 h (by omega) (by omega), he, size_of_pr]
  simp only [Result.andThen, sliced, Option.map_some, add_none]
  simp
end Go.Proofs.Yteplejpbgajecaa

/- slices.Insert of one pair into a row of pairs, walked. -/
namespace Go.Proofs.Yteplejpbgajecaa
open Go.RowKit

abbrev tH : TypeId := 93
abbrev tP : TypeId := 40
theorem undH : Try.prog.underlying 93 = some (.slice 40) := by kernel_rfl
theorem undP : Try.prog.underlying 37 = some (.slice 40) := by kernel_rfl
theorem elemH : Try.prog.elem 93 = 40 := by kernel_rfl
theorem row_blk {w : World} {base : Nat} {v : Value} {n : Nat} {xs : List Value} (hO : w.ownsRow base 40 2 v n xs) (h0 : 0 < n) : ∃ g cap cur, v = .slice (some ⟨g, 0, none⟩) n cap ∧ base ≤ g ∧ Blk w g cur ∧ n ≤ cap ∧ cap ≤ maxLen ∧ cur.length = cap * 2 ∧ cur.take (n * 2) = xs := by
  rcases hO.2 with ⟨_, h1, _⟩ | ⟨g, cap, cur, q1, q2, q3, q4, q5, q6, q7⟩
  · omega
  · exact ⟨g, cap, cur.toList, q1, q2, by unfold Blk; simpa using q3, q4, q5, by simpa using q6, q7⟩
theorem blk_row {w : World} {base g n cap : Nat} {cur xs : List Value} (hg : Blk w g cur) (hb : base ≤ g) (hn : n ≤ cap) (hc : cap ≤ maxLen) (hl : cur.length = cap * 2) (ht : cur.take (n * 2) = xs) : w.ownsRow base 40 2 (.slice (some ⟨g, 0, none⟩) n cap) n xs := by
  refine ⟨?_, .inr ⟨g, cap, cur.toArray, rfl, hb, hg, hn, hc, by simpa using hl, by simpa using ht⟩⟩
  rw [← ht, List.length_take]
  omega
theorem pr_src {w : World} {gp : Nat} {p : Pr} (h : Blk w gp (prC p)) : ∀ j v, (prC p)[j]? = some v → w.cell? ((⟨gp, 0, none⟩ : Addr).add j) = some v := fun j v hj => by
  rw [add_none, Nat.zero_add, h.cell j]
  exact hj
theorem prC_one (p : Pr) : ∀ u ∈ prC p, u.oneCell' = true := by intro u hu; simp [prC] at hu; rcases hu with rfl | rfl <;> rfl
/-- what a row of one's own becomes -/
def Grows (base : Nat) (w : World) (v : Value) (v' : Value) (l : List Pr) (w' : World) : Prop :=
  w'.ownsRow base 40 2 v' l.length (prcells l) ∧ w.grownBy w' v.ownBlock ∧ (v'.ownBlock = v.ownBlock ∨ ∃ g, v'.ownBlock = some g ∧ w.heap.size ≤ g)

theorem drew_grown (w : World) (r : Option Nat) : w.grownBy w.drew r := ⟨rfl, rfl, rfl, Nat.le_refl _, fun _ _ _ => rfl⟩

set_option maxRecDepth 10000 in
set_option maxHeartbeats 2000000 in
theorem Insert_end (h : List Pr) (p : Pr) (v : Value) (gp base : Nat) (w : World) (hO : w.ownsRow base 40 2 v h.length (prcells h)) (hb : base ≤ w.heap.size) (hp : Blk w gp (prC p)) (hl : h.length ≤ 1048576) :
    Calls Try.prog 76 #[v, .int .i64 (h.length : Int), .slice (some ⟨gp, 0, none⟩) 1 1] w fun e w' => ∃ v', e = .returned v' ∧ Grows base w v v' (h ++ [p]) w' := by
  obtain ⟨ao, c, rfl⟩ := (holds_of hO).form
  have hh : Holds w (.slice (some ⟨gp, 0, none⟩) 1 1) 1 (prC p) := .inr ⟨_, 1, rfl, Nat.le_refl _, pr_src hp⟩
  obtain ⟨v', w', hr, h2, h3, h4⟩ := run_append_h w 93 40 93 (.agg #[.int .i64 0, .int .i64 0]) 2 16 undH infoPr rfl (by decide) (by decide) base (.slice ao h.length c) h.length (prcells h) hO (.slice (some ⟨gp, 0, none⟩) 1 1) 1 (prC p) hh rfl (prC_one p) (by omega) hb
  have hr' : ∀ ty, (Builtin.append_ #[93, 37] ty #[.slice ao h.length c, .slice (some ⟨gp, 0, none⟩) 1 1]).run Try.prog w = .ok v' w' := fun ty => (run_append_types undH undP ty _ _ _ _ _ _ w).trans hr
  obtain ⟨ao', c', rfl⟩ := (holds_of h2).form
  obtain ⟨x0, x1, x2, s0⟩ : ∃ x0 x1 x2, ∀ u : World, (Instr.slice 93 (.slice ao h.length c) (some (.int .i64 (h.length : Int))) none none).run Try.prog u = .ok (.slice x0 x1 x2) u := ⟨_, _, _, fun u => by
    rw [run_slice_l (P := Try.prog) u 93 ao h.length c (by rw [undH, ← elemH]) .i64 h.length (by omega) (by omega), elemH, size_of_pr]
    rfl⟩
  go_enter Try.func76, Try.ntmps76
  go_wp2_with (at_builtin; refine wpList_ap _ (by kernel_rfl) (.tmp 23) (.tmp 24) 93 37 rfl _ _ rfl rfl _ _ (hr' _) ?_)
  go_wp2
  go_ret
  refine ⟨_, rfl, ?_, h3, ?_⟩
  · rw [List.length_append, prcells_append]
    exact h2
  · rcases h4 with h4 | h4
    · exact .inl h4
    · exact .inr ⟨_, h4, Nat.le_refl _⟩

set_option maxRecDepth 10000 in
set_option maxHeartbeats 2000000 in
theorem Insert_room (h : List Pr) (p : Pr) (n i g cap gp base : Nat) (HN : Hid (h.length = n)) (cur : List Value) (w : World) (hg : Blk w g cur) (hgb : base ≤ g) (hi : i < n) (hroom : n + 1 ≤ cap) (hcm : cap ≤ maxLen) (hcl : Hid (cur.length = cap * 2)) (hct : Hid (cur.take (n * 2) = prcells h)) (hp : Blk w gp (prC p)) (hne : gp ≠ g) (hl : n ≤ 1048576) :
    Calls Try.prog 76 #[.slice (some ⟨g, 0, none⟩) n cap, .int .i64 (i : Int), .slice (some ⟨gp, 0, none⟩) 1 1] w fun e w' => ∃ v', e = .returned v' ∧ Grows base w (.slice (some ⟨g, 0, none⟩) n cap) v' (h.take i ++ p :: h.drop i) w' := by
  have s0 := sl_from undH elemH g n cap i (by omega) (by omega)
  have s1 := sl_to undH elemH g n cap (n + 1) hroom
  have s2 := sl_from undH elemH g (n + 1) cap (i + 1) (by omega) (by omega)
  have s3 := sl_from undH elemH g (n + 1) cap i (by omega) (by omega)
  rw [show ((n + 1 : Nat) : Int) = (n : Int) + 1 by simp] at s1
  rw [show ((i + 1 : Nat) : Int) = (i : Int) + 1 by simp] at s2
  have hw1 : IntKind.i64.wrap ((i : Int) + 1) = (i : Int) + 1 := by rw [IntKind.wrap_i64]; omega
  have hne1 : ((i : Int) == (n : Int)) = false := by simp; omega
  have hcap : decide ((cap : Int) < (n : Int) + 1) = false := decide_eq_false (by omega)
  have hcs1 : ((prcells h).drop (i * 2)).length = (n - i) * 2 := by rw [List.length_drop, prcells_length, HN.out]; omega
  have hcp1 : ∀ (u : World) (ty : TypeId), u.heap = w.heap → (Builtin.copy_ #[93, 93] ty #[.slice (some ⟨g, (i + 1) * 2, none⟩) (n - i) (cap - (i + 1)), .slice (some ⟨g, i * 2, none⟩) (n + 1 - i) (cap - i)]).run Try.prog u = .ok (goInt (n - i : Nat)) (u.setRow g (spl cur ((i + 1) * 2) ((prcells h).drop (i * 2))).toArray) := fun u ty hu => by
    have hgu : Blk u g cur := by unfold Blk; rw [hu]; exact hg
    refine run_copy_pr undH u ty g _ _ _ ⟨g, i * 2, none⟩ _ _ cur _ (n - i) hgu (by simp only [Nat.min_def]; split <;> omega) hcs1 (fun j v hj => ?_) (by rw [hcs1, hcl.out]; omega) (fun v hv => prcells_one h v (List.mem_of_mem_drop hv))
    rw [add_none, hgu.cell, ← hj, List.getElem?_drop, ← hct.out, List.getElem?_take, if_pos]
    have := (List.getElem?_eq_some_iff.1 hj).1
    rw [hcs1] at this
    omega
  have hov : (callFunc 77 #[.slice (some ⟨gp, 0, none⟩) 1 1, .slice (some ⟨g, (i + 1) * 2, none⟩) (n - i) (cap - (i + 1))]).run Try.prog w = .ok (.value (.bool false)) w := by
    rw [run_callFunc_extern Try.func77 (by kernel_rfl) (by kernel_rfl) (by kernel_rfl) (e := Extern.SlicesOverlaps.overlaps #[37, 37] #[4]) (by kernel_rfl), Lib.run_overlaps_apart w 37 4 40 undP 2 size_of_pr ⟨gp, 0, none⟩ ⟨g, (i + 1) * 2, none⟩ 1 1 _ _ hne 40 40 2 cur.length (by unfold Blk at hp; simp [World.shape?, hp, prC]) (by unfold Blk at hg; simp [World.shape?, hg]) (by have := hcl.out; omega) (by unfold Blk at hp; simp [World.frozen?, hp]) (by unfold Blk at hp; simp [World.frozen?, hp])]
    rfl
  go_enter Try.func76, Try.ntmps76
  go_wp2_with (simp only [hov])
  go_region_held3 (fun _ => True) (trivial) (first | (refine step_cp _ rfl (.tmp 73) (.tmp 76) 93 93 rfl _ _ rfl rfl _ _ (hcp1 _ _ (by first | rfl | trivial)) ?_))
  obtain ⟨cur1, hcur1⟩ : ∃ c, spl cur ((i + 1) * 2) ((prcells h).drop (i * 2)) = c := ⟨_, rfl⟩
  obtain ⟨W1, hW1⟩ : ∃ u, w.drew.setRow g cur1.toArray = u := ⟨_, rfl⟩
  have hG1 : w.grownBy W1 (some g) := by rw [← hW1]; exact (drew_grown w (some g)).trans (setRow_grown w.drew g _)
  have hB1 : Blk W1 g cur1 := by rw [← hW1]; exact setRow_heap w.drew g _ _ _ _ hg
  have hP1 : Blk W1 gp (prC p) := (hG1.block gp (Array.getElem?_eq_some_iff.1 hp).1 (fun e => hne (Option.some.inj e))).trans hp
  have hl1 : cur1.length = cap * 2 := by rw [← hcur1, spl_length (by rw [hcs1, hcl.out]; omega), hcl.out]
  have HC1 : Hid (cur1 = spl cur ((i + 1) * 2) ((prcells h).drop (i * 2))) := hcur1.symm
  rw [hcur1, hW1]
  clear hcur1 hW1 hcp1 hov
  have hcp2 : ∀ ty, (Builtin.copy_ #[93, 37] ty #[.slice (some ⟨g, i * 2, none⟩) (n + 1 - i) (cap - i), .slice (some ⟨gp, 0, none⟩) 1 1]).run Try.prog W1 = .ok (goInt (1 : Nat)) (W1.setRow g (spl cur1 (i * 2) (prC p)).toArray) := fun ty =>
    run_copy_pr undH W1 ty g _ _ _ ⟨gp, 0, none⟩ _ _ cur1 _ 1 hB1 (by simp only [Nat.min_def]; split <;> omega) rfl (pr_src hP1) (by rw [hl1]; simp [prC]; omega) (prC_one p)
  go_wp2_with (at_builtin; refine wpList_cp _ (by kernel_rfl) (.tmp 80) (.tmp 81) 93 37 rfl _ _ rfl rfl _ _ (hcp2 _) ?_)
  have hG2 := hG1.trans (setRow_grown W1 g (spl cur1 (i * 2) (prC p)).toArray)
  have hB2 : Blk (W1.setRow g (spl cur1 (i * 2) (prC p)).toArray) g (spl cur1 (i * 2) (prC p)) := setRow_heap W1 g _ _ _ _ hB1
  generalize W1.setRow g (spl cur1 (i * 2) (prC p)).toArray = W2 at hG2 hB2 ⊢
  go_wp2
  go_ret
  refine ⟨_, rfl, ?_, hG2, .inl rfl⟩
  have hcp : (prC p).length = 2 := rfl
  have hlen : (h.take i ++ p :: h.drop i).length = n + 1 := by
    have := HN.out
    rw [List.length_append, List.length_cons, List.length_take, List.length_drop]
    omega
  rw [hlen]
  refine blk_row hB2 hgb hroom hcm (by rw [spl_length (by rw [hcp, hl1]; omega), hl1]) ?_
  have e1 : cur1.take (i * 2) = prcells (h.take i) := by
    rw [HC1.out, spl, List.append_assoc, List.take_append_of_le_length (by rw [List.length_take, hcl.out]; omega), List.take_take, prcells_take, ← hct.out, List.take_take]
    congr 1
    omega
  have e2 : (cur1.drop (i * 2 + 2)).take ((n - i) * 2) = prcells (h.drop i) := by
    rw [HC1.out, spl, List.append_assoc, List.drop_append_of_le_length (by rw [List.length_take, hcl.out]; omega), List.drop_of_length_le (by rw [List.length_take, hcl.out]; omega), List.nil_append, List.take_left' hcs1, prcells_drop, Nat.mul_comm 2 i]
  unfold spl
  rw [hcp, e1]
  have e3 : prcells (h.take i ++ p :: h.drop i) = prcells (h.take i) ++ prC p ++ prcells (h.drop i) := by
    rw [prcells_append, List.append_assoc]
    rfl
  have e4 : (prcells (h.take i) ++ prC p).length = i * 2 + 2 := by
    have := HN.out
    rw [List.length_append, prcells_length, List.length_take, hcp]
    omega
  rw [e3, ← e2, List.take_append, e4, List.take_of_length_le (by rw [e4]; omega)]
  congr 2
  omega

set_option maxRecDepth 10000 in
set_option maxHeartbeats 2000000 in
theorem Insert_grow (h : List Pr) (p : Pr) (n i g gp base : Nat) (HN : Hid (h.length = n)) (cur : List Value) (w : World) (hg : Blk w g cur) (hbw : base ≤ w.heap.size) (hi : i < n) (_hcl : Hid (cur.length = n * 2)) (hct : Hid (cur.take (n * 2) = prcells h)) (hp : Blk w gp (prC p)) (hl : n ≤ 1048576) :
    Calls Try.prog 76 #[.slice (some ⟨g, 0, none⟩) n n, .int .i64 (i : Int), .slice (some ⟨gp, 0, none⟩) 1 1] w fun e w' => ∃ v', e = .returned v' ∧ Grows base w (.slice (some ⟨g, 0, none⟩) n n) v' (h.take i ++ p :: h.drop i) w' := by
  obtain ⟨i0, hi0, hz0, hzs, hzb⟩ := info_parts infoPr
  have hpre : (prcells (h.take i)).length = i * 2 := by have := HN.out; rw [prcells_length, List.length_take]; omega
  have hold : (Builtin.firstCells i0.size i (.slice (some ⟨g, 0, none⟩) i n)).run Try.prog w.drew = .ok (prcells (h.take i)).toArray w.drew := by
    have hgd : Blk w.drew g cur := hg
    have := run_loadCells_list (P := Try.prog) w.drew ⟨g, 0, none⟩ (prcells (h.take i)) (fun j v hj => by
      have hlt := (List.getElem?_eq_some_iff.1 hj).1
      rw [hpre] at hlt
      rw [add_none, Nat.zero_add, hgd.cell, ← hj, prcells_take, ← hct.out, List.getElem?_take, if_pos (by omega), List.getElem?_take, if_pos (by omega)])
    rw [hpre] at this
    simp only [Builtin.firstCells, hzs]
    exact this
  obtain ⟨G, hG⟩ : ∃ G, grownCap w (n + 1) n 40 = G := ⟨_, rfl⟩
  have hGge : n + 1 ≤ G := by rw [← hG]; exact grownCap_ge _ _ _ _
  have hGle : G ≤ maxLen := by rw [← hG]; exact grownCap_le_maxLen _ _ _ _ (by unfold maxLen; omega)
  obtain ⟨row, hrow⟩ : ∃ row : List Value, ((prcells (h.take i)).toArray ++ Builtin.zeroCells (Value.agg #[.int .i64 0, .int .i64 0]).cells (n + 1 - i) ++ Builtin.zeroCells (Value.agg #[.int .i64 0, .int .i64 0]).cells (G - (n + 1))).toList = row := ⟨_, rfl⟩
  have hrl : row.length = G * 2 := by
    rw [← hrow]
    simp [Builtin.zeroCells, Value.cells, hpre]
    omega
  have hrt : row.take (i * 2) = prcells (h.take i) := by
    rw [← hrow]
    simp only [Array.toList_append, List.append_assoc]
    rw [List.take_left' hpre]
  obtain ⟨W0, hW0⟩ : ∃ W0, w.drew.alloc (.cells row.toArray 40) = W0 := ⟨_, rfl⟩
  have hkk : (n : Int) + 1 - (i : Int) = ((n + 1 - i : Nat) : Int) := by omega
  have hrz : ∀ ty, (Builtin.append_ #[93, 3] ty #[.slice (some ⟨g, 0, none⟩) i n, .int .i64 ((n : Int) + 1 - (i : Int))]).run Try.prog w = .ok (.slice (some ⟨w.heap.size, 0, none⟩) (n + 1) G) W0 := fun ty => by
    have h := Lib.run_append_grow_zeros (P := Try.prog) w 93 3 ty 40 i0 _ .i64 .i64 undH (by kernel_rfl) hi0 hz0 (some ⟨g, 0, none⟩) i n (prcells (h.take i)) hold (n + 1 - i) (by omega) (by omega) (by omega) (by omega) (by rw [hzb]; omega) (by
      rw [hzb, show i + (n + 1 - i) = n + 1 by omega]
      exact growslice_fits (by omega) (by omega))
    rw [show i + (n + 1 - i) = n + 1 by omega, hG] at h
    rw [hkk, h, ← hW0, ← hrow]
  have hs0 : W0.heap.size = w.heap.size + 1 := by rw [← hW0]; simp
  have hB0 : Blk W0 w.heap.size row := by rw [← hW0]; exact _root_.Go.heap_alloc_new w.drew _
  have hG0 : w.grownBy W0 none := by rw [← hW0]; exact (drew_grown w none).trans (World.grownBy_alloc _ _ _)
  have hP0 : Blk W0 gp (prC p) := (hG0.block gp (Array.getElem?_eq_some_iff.1 hp).1 (by simp)).trans hp
  have hg0 : Blk W0 g cur := (hG0.block g (Array.getElem?_eq_some_iff.1 hg).1 (by simp)).trans hg
  have hne : gp ≠ w.heap.size := Nat.ne_of_lt (Array.getElem?_eq_some_iff.1 hp).1
  have hne2 : g ≠ w.heap.size := Nat.ne_of_lt (Array.getElem?_eq_some_iff.1 hg).1
  have hcp : (prC p).length = 2 := rfl
  have hcp1 : ∀ ty, (Builtin.copy_ #[93, 37] ty #[.slice (some ⟨w.heap.size, i * 2, none⟩) (n + 1 - i) (G - i), .slice (some ⟨gp, 0, none⟩) 1 1]).run Try.prog W0 = .ok (goInt (1 : Nat)) (W0.setRow w.heap.size (spl row (i * 2) (prC p)).toArray) := fun ty =>
    run_copy_pr undH W0 ty _ _ _ _ ⟨gp, 0, none⟩ _ _ row _ 1 hB0 (by simp only [Nat.min_def]; split <;> omega) rfl (pr_src hP0) (by rw [hrl, hcp]; omega) (prC_one p)
  obtain ⟨W1, hW1⟩ : ∃ u, W0.setRow w.heap.size (spl row (i * 2) (prC p)).toArray = u := ⟨_, rfl⟩
  have hB1 : Blk W1 w.heap.size (spl row (i * 2) (prC p)) := by rw [← hW1]; exact setRow_heap W0 _ _ _ _ _ hB0
  have hG1 : W0.grownBy W1 (some w.heap.size) := by rw [← hW1]; exact setRow_grown _ _ _
  have hg1 : Blk W1 g cur := (hG1.block g (Array.getElem?_eq_some_iff.1 hg0).1 (fun e => hne2 (Option.some.inj e))).trans hg0
  rw [hW1] at hcp1
  have hl1 : (spl row (i * 2) (prC p)).length = G * 2 := by rw [spl_length (by rw [hrl, hcp]; omega), hrl]
  have ht1 : (spl row (i * 2) (prC p)).take (i * 2 + 2) = prcells (h.take i) ++ prC p := by rw [spl_take (cur := row) (o := i * 2) (cs := prC p) (by rw [hrl, hcp]; omega) (i * 2 + 2) rfl, hrt]
  generalize spl row (i * 2) (prC p) = cur1 at hB1 hl1 ht1
  have hcs1 : ((prcells h).drop (i * 2)).length = (n - i) * 2 := by rw [List.length_drop, prcells_length, HN.out]; omega
  have hcp2 : ∀ (u : World) (ty : TypeId), u.heap = W1.heap → (Builtin.copy_ #[93, 93] ty #[.slice (some ⟨w.heap.size, (i + 1) * 2, none⟩) (n - i) (G - (i + 1)), .slice (some ⟨g, i * 2, none⟩) (n - i) (n - i)]).run Try.prog u = .ok (goInt (n - i : Nat)) (u.setRow w.heap.size (spl cur1 ((i + 1) * 2) ((prcells h).drop (i * 2))).toArray) := fun u ty hu => by
    have hgu : Blk u w.heap.size cur1 := by unfold Blk; rw [hu]; exact hB1
    have hgs : Blk u g cur := by unfold Blk; rw [hu]; exact hg1
    refine run_copy_pr undH u ty _ _ _ _ ⟨g, i * 2, none⟩ _ _ cur1 _ (n - i) hgu (by simp only [Nat.min_def]; split <;> omega) hcs1 (fun j v hj => ?_) (by rw [hcs1, hl1]; omega) (fun v hv => prcells_one h v (List.mem_of_mem_drop hv))
    rw [add_none, hgs.cell, ← hj, List.getElem?_drop, ← hct.out, List.getElem?_take, if_pos]
    have := (List.getElem?_eq_some_iff.1 hj).1
    rw [hcs1] at this
    omega
  have s0 := sl_from undH elemH g n n i (by omega) (by omega)
  have s1 := sl_to undH elemH g n n i (by omega)
  have s2 := sl_from undH elemH w.heap.size (n + 1) G i (by omega) (by omega)
  have s3 := sl_from undH elemH w.heap.size (n + 1) G (i + 1) (by omega) (by omega)
  rw [show ((i + 1 : Nat) : Int) = (i : Int) + 1 by simp] at s3
  have hw1 : IntKind.i64.wrap ((i : Int) + 1) = (i : Int) + 1 := by rw [IntKind.wrap_i64]; omega
  have hne1 : ((i : Int) == (n : Int)) = false := by simp; omega
  have hcap : decide ((n : Int) < (n : Int) + 1) = true := decide_eq_true (by omega)
  have hGW : w.grownBy W1 none := ⟨hG1.os.trans hG0.os, hG1.tape.trans hG0.tape, hG1.output.trans hG0.output, Nat.le_trans hG0.size hG1.size, fun k hk _ => (hG1.block k (by rw [hs0]; omega) (fun e => by have := Option.some.inj e; omega)).trans (hG0.block k hk (by simp))⟩
  clear hW0 hW1 hold hi0 hz0 hzs hzb hrow hrl hrt hkk hg0 hP0 hB0 hG1
  go_enter Try.func76, Try.ntmps76
  go_wp2_with (at_builtin; refine wpList_ap _ (by kernel_rfl) (.tmp 34) (.tmp 39) 93 3 rfl _ _ rfl rfl _ _ (hrz _) ?_)
  go_wp2_with (at_builtin; refine wpList_cp _ (by kernel_rfl) (.tmp 43) (.tmp 44) 93 37 rfl _ _ rfl rfl _ _ (hcp1 _) ?_)
  go_wp2_with fail
  go_region_held3 (fun _ => True) (trivial) (first | (refine step_cp _ rfl (.tmp 50) (.tmp 53) 93 93 rfl _ _ rfl rfl _ _ (hcp2 _ _ (by first | rfl | trivial)) ?_))
  have hGF : w.grownBy (W1.drew.setRow w.heap.size (spl cur1 ((i + 1) * 2) ((prcells h).drop (i * 2))).toArray) none := ⟨hGW.os, hGW.tape, hGW.output, by simpa [World.setRow] using hGW.size, fun k hk _ => (setRow_other W1.drew _ k _ (by omega)).trans (hGW.block k hk (by simp))⟩
  have hBF : Blk (W1.drew.setRow w.heap.size (spl cur1 ((i + 1) * 2) ((prcells h).drop (i * 2))).toArray) w.heap.size (spl cur1 ((i + 1) * 2) ((prcells h).drop (i * 2))) := setRow_heap W1.drew _ _ _ _ _ hB1
  generalize W1.drew.setRow w.heap.size (spl cur1 ((i + 1) * 2) ((prcells h).drop (i * 2))).toArray = WF at hGF hBF ⊢
  go_wp2
  go_ret
  have hlen : (h.take i ++ p :: h.drop i).length = n + 1 := by
    have := HN.out
    rw [List.length_append, List.length_cons, List.length_take, List.length_drop]
    omega
  refine ⟨_, rfl, ?_, ⟨hGF.os, hGF.tape, hGF.output, hGF.size, fun k hk _ => hGF.block k hk (by simp)⟩, .inr ⟨_, rfl, Nat.le_refl _⟩⟩
  rw [hlen]
  refine blk_row hBF hbw hGge hGle (by rw [spl_length (by rw [hcs1, hl1]; omega), hl1]) ?_
  have e3 : prcells (h.take i ++ p :: h.drop i) = prcells (h.take i) ++ prC p ++ prcells (h.drop i) := by
    rw [prcells_append, List.append_assoc]
    rfl
  rw [spl_take (by rw [hcs1, hl1]; omega) _ (by rw [hcs1]; omega), show (i + 1) * 2 = i * 2 + 2 by omega, ht1, e3, prcells_drop, Nat.mul_comm 2 i]
end Go.Proofs.Yteplejpbgajecaa
