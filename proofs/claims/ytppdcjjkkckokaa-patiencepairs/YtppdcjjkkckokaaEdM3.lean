/-
  Edit scripts and the pairs that they keep, further: pairs that fit make a right script; what is kept as a list; two scripts one behind the other; going back.
-/
import Derived.Test.YtppdcjjkkckokaaEdM2
namespace Go.Proofs.Ytppdcjjkkckokaa

/-- pairs in a rising row, from a and b on, below n and m -/
def Fit : Int → Int → Int → Int → List Rn → Prop
  | a, b, n, m, [] => a ≤ n ∧ b ≤ m
  | a, b, n, m, r :: P => a ≤ r.a ∧ b ≤ r.b ∧ r.n = 1 ∧ Fit (r.a + 1) (r.b + 1) n m P
theorem Fit.le {a b n m : Int} {P : List Rn} (h : Fit a b n m P) : a ≤ n ∧ b ≤ m := by
  induction P generalizing a b with
  | nil => exact h
  | cons r P ih => have := ih h.2.2.2; have h1 := h.1; have h2 := h.2.1; omega
theorem right_step {x y n m : Int} {l : List Ch} (h : Right true (x + 1) (y + 1) n m l) : (∀ f, Right f x y n m l) ∧ U x y n m l = ⟨x, y, 1⟩ :: U (x + 1) (y + 1) n m l := by
  cases l with
  | nil =>
    obtain ⟨h1, h2, h3⟩ := h
    refine ⟨fun f => ⟨by omega, by omega, by omega⟩, ?_⟩
    rw [U_nil, U_nil, show (n - x).toNat = (n - (x + 1)).toNat + 1 by omega, un]
  | cons c l =>
    obtain ⟨⟨h1, h2, h3, h4⟩, h5⟩ := h
    refine ⟨fun f => ⟨⟨h1, by omega, by omega, .inr (by omega)⟩, h5⟩, ?_⟩
    rw [U_cons, U_cons, show (c.A - x).toNat = (c.A - (x + 1)).toNat + 1 by omega, un, List.cons_append]
/-- pairs that fit make a right script that keeps just them -/
theorem fit_right {a b n m : Int} {P : List Rn} (h : Fit a b n m P) (ha : 0 ≤ a) (hb : 0 ≤ b) (hn : n ≤ 2147483647) (hm : m ≤ 2147483647) :
    Right true a b n m (betw a b (P ++ [⟨n, m, 0⟩])) ∧ U a b n m (betw a b (P ++ [⟨n, m, 0⟩])) = P := by
  induction P generalizing a b with
  | nil =>
    obtain ⟨h1, h2⟩ := h
    rw [List.nil_append, betw]
    dsimp only
    split
    · rw [betw]
      refine ⟨⟨⟨by rw [numB_iff]; dsimp only; omega, by dsimp only; omega, by dsimp only; omega, .inl rfl⟩, ⟨by dsimp only; omega, by dsimp only; omega, by dsimp only; omega⟩⟩, ?_⟩
      rw [U_cons, U_nil]
      dsimp only
      rw [show (a - a).toNat = 0 by omega, show (n - (a + (n - a))).toNat = 0 by omega]
      rfl
    · rw [betw]
      refine ⟨⟨h1, h2, by omega⟩, ?_⟩
      rw [U_nil, show (n - a).toNat = 0 by omega]
      rfl
  | cons r P ih =>
    obtain ⟨x, y, z⟩ := r
    obtain ⟨h1, h2, h3, h4⟩ := h
    dsimp only at h1 h2 h3 h4
    subst h3
    obtain ⟨i1, i2⟩ := ih h4 (by omega) (by omega)
    obtain ⟨s1, s2⟩ := right_step i1
    have hle := h4.le
    rw [List.cons_append, betw]
    dsimp only
    split
    · refine ⟨⟨⟨by rw [numB_iff]; dsimp only; omega, by dsimp only; omega, by dsimp only; omega, .inl rfl⟩, ?_⟩, ?_⟩
      · dsimp only
        rw [show a + (x - a) = x by omega, show b + (y - b) = y by omega]
        exact s1 false
      · rw [U_cons]
        dsimp only
        rw [show a + (x - a) = x by omega, show b + (y - b) = y by omega, s2, i2, show (a - a).toNat = 0 by omega]
        rfl
    · obtain rfl : x = a := by omega
      obtain rfl : y = b := by omega
      refine ⟨s1 true, ?_⟩
      rw [s2, i2]
theorem fit_of_up {a b n m : Int} {P : List Rn} (hu : Up P) (h : ∀ r ∈ P, r.n = 1 ∧ a ≤ r.a ∧ r.a < n ∧ b ≤ r.b ∧ r.b < m) (hn : a ≤ n) (hm : b ≤ m) : Fit a b n m P := by
  induction P generalizing a b with
  | nil => exact ⟨hn, hm⟩
  | cons r P ih =>
    unfold Up at hu
    rw [List.pairwise_cons] at hu
    have h0 := h r (List.mem_cons_self ..)
    refine ⟨h0.2.1, h0.2.2.2.1, h0.1, ih hu.2 (fun q hq => ?_) (by omega) (by omega)⟩
    have h1 := h q (List.mem_cons_of_mem _ hq)
    have h2 := hu.1 q hq
    omega
theorem Right.bounds {f : Bool} {a b n m : Int} {l : List Ch} (h : Right f a b n m l) : ∀ r ∈ U a b n m l, r.n = 1 ∧ a ≤ r.a ∧ r.a < n ∧ b ≤ r.b ∧ r.b < m := by
  induction l generalizing f a b with
  | nil =>
    obtain ⟨h1, h2, h3⟩ := h
    intro r hr
    rw [U_nil, mem_un] at hr
    omega
  | cons c l ih =>
    obtain ⟨⟨h1, h2, h3, h4⟩, h5⟩ := h
    rw [numB_iff] at h1
    have hle := h5.le
    intro r hr
    rw [U_cons, List.mem_append, mem_un] at hr
    rcases hr with hr | hr
    · omega
    · have := ih h5 r hr
      omega

/-- pairs out of what is kept as a list -/
def keptR : Int → List Int → List Rn
  | _, [] => []
  | i, z :: t => if z = -1 then keptR (i + 1) t else ⟨i, z, 1⟩ :: keptR (i + 1) t
theorem keptR_append (i : Int) (X Y : List Int) : keptR i (X ++ Y) = keptR i X ++ keptR (i + X.length) Y := by
  induction X generalizing i with
  | nil => simp [keptR]
  | cons z t ih =>
    rw [List.cons_append, keptR, keptR, ih]
    rw [show i + 1 + (t.length : Int) = i + ((z :: t).length : Int) by simp; omega]
    split <;> simp
theorem keptR_none (i : Int) (k : Nat) : keptR i (List.replicate k (-1)) = [] := by
  induction k generalizing i with
  | zero => rfl
  | succ k ih => rw [List.replicate_succ, keptR, if_pos rfl, ih]
theorem keptR_run (i b : Int) (hb : 0 ≤ b) (k : Nat) : keptR i ((List.range k).map fun (j : Nat) => b + (j : Int)) = un i b k := by
  induction k generalizing i b with
  | zero => rfl
  | succ k ih =>
    rw [List.range_succ_eq_map, List.map_cons, List.map_map, keptR, if_neg (by simp; omega), un]
    have := ih (i + 1) (b + 1) (by omega)
    rw [← this]
    simp only [Int.natCast_zero, Int.add_zero]
    congr 2
    apply List.map_congr_left
    intro j _
    simp
    omega
theorem mem_keptR {i : Int} {K : List Int} {r : Rn} : r ∈ keptR i K ↔ r.n = 1 ∧ i ≤ r.a ∧ K[(r.a - i).toNat]? = some r.b ∧ r.b ≠ -1 := by
  induction K generalizing i with
  | nil => simp [keptR]
  | cons z t ih =>
    rw [keptR]
    have key : (r.n = 1 ∧ i + 1 ≤ r.a ∧ t[(r.a - (i + 1)).toNat]? = some r.b ∧ r.b ≠ -1) ↔ (r.n = 1 ∧ i + 1 ≤ r.a ∧ (z :: t)[(r.a - i).toNat]? = some r.b ∧ r.b ≠ -1) := by
      by_cases h : i + 1 ≤ r.a
      · rw [show (r.a - i).toNat = (r.a - (i + 1)).toNat + 1 by omega, List.getElem?_cons_succ]
      · constructor <;> (intro h1; omega)
    split
    · rename_i hz
      rw [ih, key]
      constructor
      · rintro ⟨h1, h2, h3, h4⟩
        exact ⟨h1, by omega, h3, h4⟩
      · rintro ⟨h1, h2, h3, h4⟩
        refine ⟨h1, ?_, h3, h4⟩
        by_cases h : r.a = i
        · rw [show (r.a - i).toNat = 0 by omega, List.getElem?_cons_zero, Option.some_inj] at h3
          omega
        · omega
    · rename_i hz
      rw [List.mem_cons, ih, key]
      constructor
      · rintro (rfl | ⟨h1, h2, h3, h4⟩)
        · simp [hz]
        · exact ⟨h1, by omega, h3, h4⟩
      · rintro ⟨h1, h2, h3, h4⟩
        by_cases h : r.a = i
        · left
          rw [show (r.a - i).toNat = 0 by omega, List.getElem?_cons_zero, Option.some_inj] at h3
          obtain ⟨x, y, w⟩ := r
          dsimp only at *
          rw [h, h1, h3]
        · exact .inr ⟨h1, by omega, h3, h4⟩
theorem keptR_ge {i : Int} {K : List Int} : ∀ r ∈ keptR i K, i ≤ r.a := fun _ hr => (mem_keptR.1 hr).2.1
/-- in order of the first text -/
def UpA (l : List Rn) : Prop := l.Pairwise fun p q => p.a < q.a
theorem Up.a {l : List Rn} (h : Up l) : UpA l := h.imp fun h => h.1
theorem keptR_up (i : Int) (K : List Int) : UpA (keptR i K) := by
  induction K generalizing i with
  | nil => exact List.Pairwise.nil
  | cons z t ih =>
    rw [keptR]
    split
    · exact ih _
    · exact List.Pairwise.cons (fun r hr => by have := keptR_ge r hr; dsimp only; omega) (ih _)
theorem upA_ext {l k : List Rn} (hl : UpA l) (hk : UpA k) (h : ∀ r, r ∈ l ↔ r ∈ k) : l = k := by
  induction l generalizing k with
  | nil =>
    cases k with
    | nil => rfl
    | cons y t => have := (h y).2 (List.mem_cons_self ..); simp at this
  | cons x t ih =>
    cases k with
    | nil => have := (h x).1 (List.mem_cons_self ..); simp at this
    | cons y u =>
      unfold UpA at hl hk
      rw [List.pairwise_cons] at hl hk
      have e : x = y := by
        have h1 := (h x).1 (List.mem_cons_self ..)
        have h2 := (h y).2 (List.mem_cons_self ..)
        rw [List.mem_cons] at h1 h2
        rcases h1 with h1 | h1
        · exact h1
        · rcases h2 with h2 | h2
          · exact h2.symm
          · have := hl.1 y h2
            have := hk.1 x h1
            omega
      subst e
      rw [ih hl.2 hk.2 fun r => ?_]
      have hr := h r
      rw [List.mem_cons, List.mem_cons] at hr
      constructor
      · intro hrt
        rcases hr.1 (.inr hrt) with e | e
        · subst e; have := hl.1 _ hrt; omega
        · exact e
      · intro hru
        rcases hr.2 (.inr hru) with e | e
        · subst e; have := hk.1 _ hru; omega
        · exact e

/-- what the rest of a script keeps -/
def kr (a b n m : Int) (l : List Ch) : List Int := (piecesL a b n m l).flatMap pk
theorem kr_nil (a b n m : Int) : kr a b n m [] = (List.range (n - a).toNat).map fun (j : Nat) => b + (j : Int) := by simp [kr, piecesL, pk]
theorem kr_cons (a b n m : Int) (c : Ch) (l : List Ch) : kr a b n m (c :: l) = ((List.range (c.A - a).toNat).map fun (j : Nat) => b + (j : Int)) ++ List.replicate c.AN.toNat (-1) ++ kr (c.A + c.AN) (c.B + c.BN) n m l := by
  simp [kr, piecesL, pk]
theorem kr_length {f : Bool} {a b n m : Int} {l : List Ch} (h : Right f a b n m l) : (kr a b n m l).length = (n - a).toNat := by
  induction l generalizing f a b with
  | nil => rw [kr_nil]; simp
  | cons c l ih =>
    obtain ⟨⟨h1, h2, h3, h4⟩, h5⟩ := h
    rw [numB_iff] at h1
    have hle := h5.le
    rw [kr_cons]
    simp only [List.length_append, List.length_map, List.length_range, List.length_replicate, ih h5]
    omega
theorem kr_kept {f : Bool} {a b n m : Int} {l : List Ch} (h : Right f a b n m l) (hb : 0 ≤ b) : keptR a (kr a b n m l) = U a b n m l := by
  induction l generalizing f a b with
  | nil => rw [kr_nil, U_nil, keptR_run _ _ hb]
  | cons c l ih =>
    obtain ⟨⟨h1, h2, h3, h4⟩, h5⟩ := h
    rw [numB_iff] at h1
    rw [kr_cons, U_cons, keptR_append, keptR_append, keptR_run _ _ hb, keptR_none, List.append_nil]
    simp only [List.length_append, List.length_map, List.length_range, List.length_replicate]
    rw [show a + (((c.A - a).toNat + c.AN.toNat : Nat) : Int) = c.A + c.AN by omega, ih h5 (by omega)]
theorem kr_each {f : Bool} {a b n m : Int} {l : List Ch} (h : Right f a b n m l) (hb : 0 ≤ b) : ∀ z ∈ kr a b n m l, z = -1 ∨ (0 ≤ z ∧ z < m) := by
  induction l generalizing f a b with
  | nil =>
    obtain ⟨h1, h2, h3⟩ := h
    intro z hz
    rw [kr_nil, List.mem_map] at hz
    obtain ⟨j, hj, rfl⟩ := hz
    rw [List.mem_range] at hj
    omega
  | cons c l ih =>
    obtain ⟨⟨h1, h2, h3, h4⟩, h5⟩ := h
    rw [numB_iff] at h1
    have hle := h5.le
    intro z hz
    rw [kr_cons, List.mem_append, List.mem_append, List.mem_map] at hz
    rcases hz with (⟨j, hj, rfl⟩ | hz) | hz
    · rw [List.mem_range] at hj
      omega
    · exact .inl (List.eq_of_mem_replicate hz)
    · exact ih h5 (by omega) z hz
/-- a list of what is kept is told by its pairs and its length -/
theorem kept_inj {i : Int} {K L : List Int} (hl : K.length = L.length) (h : keptR i K = keptR i L) : K = L := by
  apply List.ext_getElem? 
  intro k
  by_cases hk : k < K.length
  · have hk' : k < L.length := by omega
    rw [List.getElem?_eq_getElem hk, List.getElem?_eq_getElem hk', Option.some_inj]
    have h1 : ∀ z, z ≠ -1 → (K[k]? = some z ↔ L[k]? = some z) := by
      intro z hz
      have m1 := mem_keptR (i := i) (K := K) (r := ⟨i + k, z, 1⟩)
      have m2 := mem_keptR (i := i) (K := L) (r := ⟨i + k, z, 1⟩)
      dsimp only at m1 m2
      rw [show (i + (k : Int) - i).toNat = k by omega] at m1 m2
      rw [h, m2] at m1
      constructor
      · intro h3
        exact (m1.2 ⟨rfl, by omega, h3, hz⟩).2.2.1
      · intro h3
        exact (m1.1 ⟨rfl, by omega, h3, hz⟩).2.2.1
    by_cases e : K[k] = -1
    · by_cases e2 : L[k] = -1
      · rw [e, e2]
      · have := (h1 L[k] e2).2 (List.getElem?_eq_getElem hk')
        rw [List.getElem?_eq_getElem hk, Option.some_inj] at this
        exact this
    · have := (h1 K[k] e).1 (List.getElem?_eq_getElem hk)
      rw [List.getElem?_eq_getElem hk', Option.some_inj] at this
      exact this.symm
  · rw [List.getElem?_eq_none (by omega), List.getElem?_eq_none (by omega)]

/-- lists of what is kept that make a script: each number from nx on, below m, rising -/
def Vk : Int → Int → List Int → Prop
  | _, _, [] => True
  | nx, m, z :: t => (z = -1 ∧ Vk nx m t) ∨ (z ≠ -1 ∧ nx ≤ z ∧ z < m ∧ Vk (z + 1) m t)
theorem Vk.fit {nx m i : Int} {K : List Int} (h : Vk nx m K) (hm : nx ≤ m) : Fit i nx (i + K.length) m (keptR i K) := by
  have wk : ∀ {a b n m : Int} {P : List Rn}, Fit (a + 1) b n m P → Fit a b n m P := by
    intro a b n m P h
    cases P with
    | nil => exact ⟨by have := h.1; omega, h.2⟩
    | cons r P => exact ⟨by have := h.1; omega, h.2⟩
  induction K generalizing nx i with
  | nil => exact ⟨by simp, hm⟩
  | cons z t ih =>
    rw [keptR]
    rcases h with ⟨rfl, h⟩ | ⟨hz, h1, h2, h3⟩
    · rw [if_pos rfl]
      have := ih h hm (i := i + 1)
      rw [show i + 1 + (t.length : Int) = i + ((-1 :: t).length : Int) by simp; omega] at this
      exact wk this
    · rw [if_neg hz]
      have := ih h3 (by omega) (i := i + 1)
      rw [show i + 1 + (t.length : Int) = i + ((z :: t).length : Int) by simp; omega] at this
      exact ⟨Int.le_refl _, h1, rfl, this⟩
theorem Vk.each {nx m : Int} {K : List Int} (h : Vk nx m K) (h0 : 0 ≤ nx) : ∀ z ∈ K, z = -1 ∨ 0 ≤ z := by
  induction K generalizing nx with
  | nil => simp
  | cons y t ih =>
    intro z hz
    rw [List.mem_cons] at hz
    rcases h with ⟨rfl, h⟩ | ⟨hy, h1, h2, h3⟩
    · rcases hz with rfl | hz
      · exact .inl rfl
      · exact ih h h0 z hz
    · rcases hz with rfl | hz
      · right; omega
      · exact ih h3 (by omega) z hz
theorem vk_of_fit {i nx n m : Int} {K : List Int} (h : Fit i nx n m (keptR i K)) : Vk nx m K := by
  induction K generalizing i nx with
  | nil => trivial
  | cons z t ih =>
    rw [keptR] at h
    by_cases hz : z = -1
    · rw [if_pos hz] at h
      left
      refine ⟨hz, ?_⟩
      by_cases hin : i + 1 ≤ n
      · refine ih (i := i + 1) ?_
        revert h
        have hge := keptR_ge (i := i + 1) (K := t)
        generalize keptR (i + 1) t = P at hge ⊢
        intro h
        cases P with
        | nil => exact ⟨hin, h.2⟩
        | cons r P => exact ⟨hge r (List.mem_cons_self ..), h.2⟩
      · have hge := keptR_ge (i := i + 1) (K := t)
        have hnil : keptR (i + 1) t = [] := by
          cases hk : keptR (i + 1) t with
          | nil => rfl
          | cons r P =>
            rw [hk] at h hge
            have := hge r (List.mem_cons_self ..)
            have := h.2.2.2.le
            omega
        have hall : ∀ z ∈ t, z = -1 := by
          intro z hz
          obtain ⟨k, hk⟩ := List.getElem?_of_mem hz
          apply Classical.byContradiction
          intro hne
          have := mem_keptR (i := i + 1) (K := t) (r := ⟨i + 1 + k, z, 1⟩)
          dsimp only at this
          rw [hnil, show (i + 1 + (k : Int) - (i + 1)).toNat = k by omega] at this
          have := this.2 ⟨rfl, by omega, hk, hne⟩
          simp at this
        clear hnil hge h ih
        induction t with
        | nil => trivial
        | cons y t ih => exact .inl ⟨hall y (List.mem_cons_self ..), ih fun z hz => hall z (List.mem_cons_of_mem _ hz)⟩
    · rw [if_neg hz] at h
      obtain ⟨h1, h2, h3, h4⟩ := h
      dsimp only at h1 h2 h4
      exact .inr ⟨hz, h2, by have := h4.le; omega, ih h4⟩
end Go.Proofs.Ytppdcjjkkckokaa
