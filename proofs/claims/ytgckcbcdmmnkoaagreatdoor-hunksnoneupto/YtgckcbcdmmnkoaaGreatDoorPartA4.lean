/-
  Texts that belong together, joined: EdM3, EdM4, EdM5, HuMath, HuRow, HuRf1, HuRf2, HuRf3, PcReg, HuRf4, HuRf5.
-/
import Derived.Test.YtgckcbcdmmnkoaaGreatDoorPartA3
import Derived.Deep.CutRange
import Derived.Deep.DeepCutAuto

/- Edit scripts and the pairs that they keep, further: pairs that fit make a right script; what is kept as a list; two scripts one behind the other; going back. -/
set_option maxRecDepth 20000
namespace Go.Proofs.YtgckcbcdmmnkoaaGreatDoor

/-- pairs in a rising row, from a and b on, below n and m -/
def Fit : Int → Int → Int → Int → List Rn → Prop
  | a, b, n, m, [] => a ≤ n ∧ b ≤ m
  | a, b, n, m, r :: P => a ≤ r.a ∧ b ≤ r.b ∧ r.n = 1 ∧ Fit (r.a + 1) (r.b + 1) n m P
theorem Fit.le {a b n m : Int} {P : List Rn} (h : Fit a b n m P) : a ≤ n ∧ b ≤ m := by
  induction P generalizing a b with
  | nil => exact h
  | cons r P ih => have := ih h.2.2.2; have h1 := h.1; have h2 := h.2.1; omega
theorem right_step {x y n m : Int} {l : List Ch} (h : Right true (x + 1) (y + 1) n m l) : (∀ f, Right f x y n m l) ∧ U x y n m l = ⟨x, y, 1⟩ :: U (x + 1) (y + 1) n m l := by
  cases l with
  | nil =>
    obtain ⟨h1, h2, h3⟩ := h
    refine ⟨fun f => ⟨by omega, by omega, by omega⟩, ?_⟩
    rw [U_nil, U_nil, show (n - x).toNat = (n - (x + 1)).toNat + 1 by omega, un]
  | cons c l =>
    obtain ⟨⟨h1, h2, h3, h4⟩, h5⟩ := h
    refine ⟨fun f => ⟨⟨h1, by omega, by omega, .inr (by omega)⟩, h5⟩, ?_⟩
    rw [U_cons, U_cons, show (c.A - x).toNat = (c.A - (x + 1)).toNat + 1 by omega, un, List.cons_append]
/-- pairs that fit make a right script that keeps just them -/
theorem fit_right {a b n m : Int} {P : List Rn} (h : Fit a b n m P) (ha : 0 ≤ a) (hb : 0 ≤ b) (hn : n ≤ 2147483647) (hm : m ≤ 2147483647) :
    Right true a b n m (betw a b (P ++ [⟨n, m, 0⟩])) ∧ U a b n m (betw a b (P ++ [⟨n, m, 0⟩])) = P := by
  induction P generalizing a b with
  | nil =>
    obtain ⟨h1, h2⟩ := h
    rw [List.nil_append, betw]
    dsimp only
    split
    · rw [betw]
      refine ⟨⟨⟨by rw [numB_iff]; dsimp only; omega, by dsimp only; omega, by dsimp only; omega, .inl rfl⟩, ⟨by dsimp only; omega, by dsimp only; omega, by dsimp only; omega⟩⟩, ?_⟩
      rw [U_cons, U_nil]
      dsimp only
      rw [show (a - a).toNat = 0 by omega, show (n - (a + (n - a))).toNat = 0 by omega]
      rfl
    · rw [betw]
      refine ⟨⟨h1, h2, by omega⟩, ?_⟩
      rw [U_nil, show (n - a).toNat = 0 by omega]
      rfl
  | cons r P ih =>
    obtain ⟨x, y, z⟩ := r
    obtain ⟨h1, h2, h3, h4⟩ := h
    dsimp only at h1 h2 h3 h4
    subst h3
    obtain ⟨i1, i2⟩ := ih h4 (by omega) (by omega)
    obtain ⟨s1, s2⟩ := right_step i1
    have hle := h4.le
    rw [List.cons_append, betw]
    dsimp only
    split
    · refine ⟨⟨⟨by rw [numB_iff]; dsimp only; omega, by dsimp only; omega, by dsimp only; omega, .inl rfl⟩, ?_⟩, ?_⟩
      · dsimp only
        rw [show a + (x - a) = x by omega, show b + (y - b) = y by omega]
        exact s1 false
      · rw [U_cons]
        dsimp only
        rw [show a + (x - a) = x by omega, show b + (y - b) = y by omega, s2, i2, show (a - a).toNat = 0 by omega]
        rfl
    · obtain rfl : x = a := by omega
      obtain rfl : y = b := by omega
      refine ⟨s1 true, ?_⟩
      rw [s2, i2]
theorem fit_of_up {a b n m : Int} {P : List Rn} (hu : Up P) (h : ∀ r ∈ P, r.n = 1 ∧ a ≤ r.a ∧ r.a < n ∧ b ≤ r.b ∧ r.b < m) (hn : a ≤ n) (hm : b ≤ m) : Fit a b n m P := by
  induction P generalizing a b with
  | nil => exact ⟨hn, hm⟩
  | cons r P ih =>
    unfold Up at hu
    rw [List.pairwise_cons] at hu
    have h0 := h r (List.mem_cons_self ..)
    refine ⟨h0.2.1, h0.2.2.2.1, h0.1, ih hu.2 (fun q hq => ?_) (by omega) (by omega)⟩
    have h1 := h q (List.mem_cons_of_mem _ hq)
    have h2 := hu.1 q hq
    omega
theorem Right.bounds {f : Bool} {a b n m : Int} {l : List Ch} (h : Right f a b n m l) : ∀ r ∈ U a b n m l, r.n = 1 ∧ a ≤ r.a ∧ r.a < n ∧ b ≤ r.b ∧ r.b < m := by
  induction l generalizing f a b with
  | nil =>
    obtain ⟨h1, h2, h3⟩ := h
    intro r hr
    rw [U_nil, mem_un] at hr
    omega
  | cons c l ih =>
    obtain ⟨⟨h1, h2, h3, h4⟩, h5⟩ := h
    rw [numB_iff] at h1
    have hle := h5.le
    intro r hr
    rw [U_cons, List.mem_append, mem_un] at hr
    rcases hr with hr | hr
    · omega
    · have := ih h5 r hr
      omega

/-- pairs out of what is kept as a list -/
def keptR : Int → List Int → List Rn
  | _, [] => []
  | i, z :: t => if z = -1 then keptR (i + 1) t else ⟨i, z, 1⟩ :: keptR (i + 1) t
theorem keptR_append (i : Int) (X Y : List Int) : keptR i (X ++ Y) = keptR i X ++ keptR (i + X.length) Y := by
  induction X generalizing i with
  | nil => simp [keptR]
  | cons z t ih =>
    rw [List.cons_append, keptR, keptR, ih]
    rw [show i + 1 + (t.length : Int) = i + ((z :: t).length : Int) by simp; omega]
    split <;> simp
theorem keptR_none (i : Int) (k : Nat) : keptR i (List.replicate k (-1)) = [] := by
  induction k generalizing i with
  | zero => rfl
  | succ k ih => rw [List.replicate_succ, keptR, if_pos rfl, ih]
theorem keptR_run (i b : Int) (hb : 0 ≤ b) (k : Nat) : keptR i ((List.range k).map fun (j : Nat) => b + (j : Int)) = un i b k := by
  induction k generalizing i b with
  | zero => rfl
  | succ k ih =>
    rw [List.range_succ_eq_map, List.map_cons, List.map_map, keptR, if_neg (by simp; omega), un]
    have := ih (i + 1) (b + 1) (by omega)
    rw [← this]
    simp only [Int.natCast_zero, Int.add_zero]
    congr 2
    apply List.map_congr_left
    intro j _
    simp
    omega
theorem mem_keptR {i : Int} {K : List Int} {r : Rn} : r ∈ keptR i K ↔ r.n = 1 ∧ i ≤ r.a ∧ K[(r.a - i).toNat]? = some r.b ∧ r.b ≠ -1 := by
  induction K generalizing i with
  | nil => simp [keptR]
  | cons z t ih =>
    rw [keptR]
    have key : (r.n = 1 ∧ i + 1 ≤ r.a ∧ t[(r.a - (i + 1)).toNat]? = some r.b ∧ r.b ≠ -1) ↔ (r.n = 1 ∧ i + 1 ≤ r.a ∧ (z :: t)[(r.a - i).toNat]? = some r.b ∧ r.b ≠ -1) := by
      by_cases h : i + 1 ≤ r.a
      · rw [show (r.a - i).toNat = (r.a - (i + 1)).toNat + 1 by omega, List.getElem?_cons_succ]
      · constructor <;> (intro h1; omega)
    split
    · rename_i hz
      rw [ih, key]
      constructor
      · rintro ⟨h1, h2, h3, h4⟩
        exact ⟨h1, by omega, h3, h4⟩
      · rintro ⟨h1, h2, h3, h4⟩
        refine ⟨h1, ?_, h3, h4⟩
        by_cases h : r.a = i
        · rw [show (r.a - i).toNat = 0 by omega, List.getElem?_cons_zero, Option.some_inj] at h3
          omega
        · omega
    · rename_i hz
      rw [List.mem_cons, ih, key]
      constructor
      · rintro (rfl | ⟨h1, h2, h3, h4⟩)
        · simp [hz]
        · exact ⟨h1, by omega, h3, h4⟩
      · rintro ⟨h1, h2, h3, h4⟩
        by_cases h : r.a = i
        · left
          rw [show (r.a - i).toNat = 0 by omega, List.getElem?_cons_zero, Option.some_inj] at h3
          obtain ⟨x, y, w⟩ := r
          dsimp only at *
          rw [h, h1, h3]
        · exact .inr ⟨h1, by omega, h3, h4⟩
theorem keptR_ge {i : Int} {K : List Int} : ∀ r ∈ keptR i K, i ≤ r.a := fun _ hr => (mem_keptR.1 hr).2.1
/-- in order of the first text -/
def UpA (l : List Rn) : Prop := l.Pairwise fun p q => p.a < q.a
theorem Up.a {l : List Rn} (h : Up l) : UpA l := h.imp fun h => h.1
theorem keptR_up (i : Int) (K : List Int) : UpA (keptR i K) := by
  induction K generalizing i with
  | nil => exact List.Pairwise.nil
  | cons z t ih =>
    rw [keptR]
    split
    · exact ih _
    · exact List.Pairwise.cons (fun r hr => by have := keptR_ge r hr; dsimp only; omega) (ih _)
theorem upA_ext {l k : List Rn} (hl : UpA l) (hk : UpA k) (h : ∀ r, r ∈ l ↔ r ∈ k) : l = k := by
  induction l generalizing k with
  | nil =>
    cases k with
    | nil => rfl
    | cons y t => have := (h y).2 (List.mem_cons_self ..); simp at this
  | cons x t ih =>
    cases k with
    | nil => have := (h x).1 (List.mem_cons_self ..); simp at this
    | cons y u =>
      unfold UpA at hl hk
      rw [List.pairwise_cons] at hl hk
      have e : x = y := by
        have h1 := (h x).1 (List.mem_cons_self ..)
        have h2 := (h y).2 (List.mem_cons_self ..)
        rw [List.mem_cons] at h1 h2
        rcases h1 with h1 | h1
        · exact h1
        · rcases h2 with h2 | h2
          · exact h2.symm
          · have := hl.1 y h2
            have := hk.1 x h1
            omega
      subst e
      rw [ih hl.2 hk.2 fun r => ?_]
      have hr := h r
      rw [List.mem_cons, List.mem_cons] at hr
      constructor
      · intro hrt
        rcases hr.1 (.inr hrt) with e | e
        · subst e; have := hl.1 _ hrt; omega
        · exact e
      · intro hru
        rcases hr.2 (.inr hru) with e | e
        · subst e; have := hk.1 _ hru; omega
        · exact e

/-- what the rest of a script keeps -/
def kr (a b n m : Int) (l : List Ch) : List Int := (piecesL a b n m l).flatMap pk
theorem kr_nil (a b n m : Int) : kr a b n m [] = (List.range (n - a).toNat).map fun (j : Nat) => b + (j : Int) := by simp [kr, piecesL, pk]
theorem kr_cons (a b n m : Int) (c : Ch) (l : List Ch) : kr a b n m (c :: l) = ((List.range (c.A - a).toNat).map fun (j : Nat) => b + (j : Int)) ++ List.replicate c.AN.toNat (-1) ++ kr (c.A + c.AN) (c.B + c.BN) n m l := by
  simp [kr, piecesL, pk]
theorem kr_length {f : Bool} {a b n m : Int} {l : List Ch} (h : Right f a b n m l) : (kr a b n m l).length = (n - a).toNat := by
  induction l generalizing f a b with
  | nil => rw [kr_nil]; simp
  | cons c l ih =>
    obtain ⟨⟨h1, h2, h3, h4⟩, h5⟩ := h
    rw [numB_iff] at h1
    have hle := h5.le
    rw [kr_cons]
    simp only [List.length_append, List.length_map, List.length_range, List.length_replicate, ih h5]
    omega
theorem kr_kept {f : Bool} {a b n m : Int} {l : List Ch} (h : Right f a b n m l) (hb : 0 ≤ b) : keptR a (kr a b n m l) = U a b n m l := by
  induction l generalizing f a b with
  | nil => rw [kr_nil, U_nil, keptR_run _ _ hb]
  | cons c l ih =>
    obtain ⟨⟨h1, h2, h3, h4⟩, h5⟩ := h
    rw [numB_iff] at h1
    rw [kr_cons, U_cons, keptR_append, keptR_append, keptR_run _ _ hb, keptR_none, List.append_nil]
    simp only [List.length_append, List.length_map, List.length_range, List.length_replicate]
    rw [show a + (((c.A - a).toNat + c.AN.toNat : Nat) : Int) = c.A + c.AN by omega, ih h5 (by omega)]
theorem kr_each {f : Bool} {a b n m : Int} {l : List Ch} (h : Right f a b n m l) (hb : 0 ≤ b) : ∀ z ∈ kr a b n m l, z = -1 ∨ (0 ≤ z ∧ z < m) := by
  induction l generalizing f a b with
  | nil =>
    obtain ⟨h1, h2, h3⟩ := h
    intro z hz
    rw [kr_nil, List.mem_map] at hz
    obtain ⟨j, hj, rfl⟩ := hz
    rw [List.mem_range] at hj
    omega
  | cons c l ih =>
    obtain ⟨⟨h1, h2, h3, h4⟩, h5⟩ := h
    rw [numB_iff] at h1
    have hle := h5.le
    intro z hz
    rw [kr_cons, List.mem_append, List.mem_append, List.mem_map] at hz
    rcases hz with (⟨j, hj, rfl⟩ | hz) | hz
    · rw [List.mem_range] at hj
      omega
    · exact .inl (List.eq_of_mem_replicate hz)
    · exact ih h5 (by omega) z hz
/-- a list of what is kept is told by its pairs and its length -/
theorem kept_inj {i : Int} {K L : List Int} (hl : K.length = L.length) (h : keptR i K = keptR i L) : K = L := by
  apply List.ext_getElem? 
  intro k
  by_cases hk : k < K.length
  · have hk' : k < L.length := by omega
    rw [List.getElem?_eq_getElem hk, List.getElem?_eq_getElem hk', Option.some_inj]
    have h1 : ∀ z, z ≠ -1 → (K[k]? = some z ↔ L[k]? = some z) := by
      intro z hz
      have m1 := mem_keptR (i := i) (K := K) (r := ⟨i + k, z, 1⟩)
      have m2 := mem_keptR (i := i) (K := L) (r := ⟨i + k, z, 1⟩)
      dsimp only at m1 m2
      rw [show (i + (k : Int) - i).toNat = k by omega] at m1 m2
      rw [h, m2] at m1
      constructor
      · intro h3
        exact (m1.2 ⟨rfl, by omega, h3, hz⟩).2.2.1
      · intro h3
        exact (m1.1 ⟨rfl, by omega, h3, hz⟩).2.2.1
    by_cases e : K[k] = -1
    · by_cases e2 : L[k] = -1
      · rw [e, e2]
      · have := (h1 L[k] e2).2 (List.getElem?_eq_getElem hk')
        rw [List.getElem?_eq_getElem hk, Option.some_inj] at this
        exact this
    · have := (h1 K[k] e).1 (List.getElem?_eq_getElem hk)
      rw [List.getElem?_eq_getElem hk', Option.some_inj] at this
      exact this.symm
  · rw [List.getElem?_eq_none (by omega), List.getElem?_eq_none (by omega)]

/-- lists of what is kept that make a script: each number from nx on, below m, rising -/
def Vk : Int → Int → List Int → Prop
  | _, _, [] => True
  | nx, m, z :: t => (z = -1 ∧ Vk nx m t) ∨ (z ≠ -1 ∧ nx ≤ z ∧ z < m ∧ Vk (z + 1) m t)
theorem Vk.fit {nx m i : Int} {K : List Int} (h : Vk nx m K) (hm : nx ≤ m) : Fit i nx (i + K.length) m (keptR i K) := by
  have wk : ∀ {a b n m : Int} {P : List Rn}, Fit (a + 1) b n m P → Fit a b n m P := by
    intro a b n m P h
    cases P with
    | nil => exact ⟨by have := h.1; omega, h.2⟩
    | cons r P => exact ⟨by have := h.1; omega, h.2⟩
  induction K generalizing nx i with
  | nil => exact ⟨by simp, hm⟩
  | cons z t ih =>
    rw [keptR]
    rcases h with ⟨rfl, h⟩ | ⟨hz, h1, h2, h3⟩
    · rw [if_pos rfl]
      have := ih h hm (i := i + 1)
      rw [show i + 1 + (t.length : Int) = i + ((-1 :: t).length : Int) by simp; omega] at this
      exact wk this
    · rw [if_neg hz]
      have := ih h3 (by omega) (i := i + 1)
      rw [show i + 1 + (t.length : Int) = i + ((z :: t).length : Int) by simp; omega] at this
      exact ⟨Int.le_refl _, h1, rfl, this⟩
theorem Vk.each {nx m : Int} {K : List Int} (h : Vk nx m K) (h0 : 0 ≤ nx) : ∀ z ∈ K, z = -1 ∨ 0 ≤ z := by
  induction K generalizing nx with
  | nil => simp
  | cons y t ih =>
    intro z hz
    rw [List.mem_cons] at hz
    rcases h with ⟨rfl, h⟩ | ⟨hy, h1, h2, h3⟩
    · rcases hz with rfl | hz
      · exact .inl rfl
      · exact ih h h0 z hz
    · rcases hz with rfl | hz
      · right; omega
      · exact ih h3 (by omega) z hz
theorem vk_of_fit {i nx n m : Int} {K : List Int} (h : Fit i nx n m (keptR i K)) : Vk nx m K := by
  induction K generalizing i nx with
  | nil => trivial
  | cons z t ih =>
    rw [keptR] at h
    by_cases hz : z = -1
    · rw [if_pos hz] at h
      left
      refine ⟨hz, ?_⟩
      by_cases hin : i + 1 ≤ n
      · refine ih (i := i + 1) ?_
        revert h
        have hge := keptR_ge (i := i + 1) (K := t)
        generalize keptR (i + 1) t = P at hge ⊢
        intro h
        cases P with
        | nil => exact ⟨hin, h.2⟩
        | cons r P => exact ⟨hge r (List.mem_cons_self ..), h.2⟩
      · have hge := keptR_ge (i := i + 1) (K := t)
        have hnil : keptR (i + 1) t = [] := by
          cases hk : keptR (i + 1) t with
          | nil => rfl
          | cons r P =>
            rw [hk] at h hge
            have := hge r (List.mem_cons_self ..)
            have := h.2.2.2.le
            omega
        have hall : ∀ z ∈ t, z = -1 := by
          intro z hz
          obtain ⟨k, hk⟩ := List.getElem?_of_mem hz
          apply Classical.byContradiction
          intro hne
          have := mem_keptR (i := i + 1) (K := t) (r := ⟨i + 1 + k, z, 1⟩)
          dsimp only at this
          rw [hnil, show (i + 1 + (k : Int) - (i + 1)).toNat = k by omega] at this
          have := this.2 ⟨rfl, by omega, hk, hne⟩
          simp at this
        clear hnil hge h ih
        induction t with
        | nil => trivial
        | cons y t ih => exact .inl ⟨hall y (List.mem_cons_self ..), ih fun z hz => hall z (List.mem_cons_of_mem _ hz)⟩
    · rw [if_neg hz] at h
      obtain ⟨h1, h2, h3, h4⟩ := h
      dsimp only at h1 h2 h4
      exact .inr ⟨hz, h2, by have := h4.le; omega, ih h4⟩
end Go.Proofs.YtgckcbcdmmnkoaaGreatDoor

/- Two scripts one behind the other: the pairs of both; associative, and one that keeps all adds nothing. -/
set_option maxRecDepth 20000
namespace Go.Proofs.YtgckcbcdmmnkoaaGreatDoor

/-- what two scripts keep, run by run -/
def bothR : List Rn → List Rn → List Rn
  | [], _ => []
  | _ :: _, [] => []
  | p :: x, q :: y =>
    (if max p.b q.a < min (p.b + p.n) (q.a + q.n) then [⟨p.a + (max p.b q.a - p.b), q.b + (max p.b q.a - q.a), min (p.b + p.n) (q.a + q.n) - max p.b q.a⟩] else []) ++
      if min (p.b + p.n) (q.a + q.n) = p.b + p.n then bothR x (q :: y) else bothR (p :: x) y

theorem up_cmp {l : List Rn} (h : Up l) : ∀ r ∈ l, ∀ s ∈ l, r = s ∨ (r.a < s.a ∧ r.b < s.b) ∨ (s.a < r.a ∧ s.b < r.b) := by
  induction l with
  | nil => simp
  | cons x t ih =>
    unfold Up at h
    rw [List.pairwise_cons] at h
    intro r hr s hs
    rw [List.mem_cons] at hr hs
    rcases hr with rfl | hr
    · rcases hs with rfl | hs
      · exact .inl rfl
      · exact .inr (.inl (h.1 s hs))
    · rcases hs with rfl | hs
      · exact .inr (.inr (h.1 r hr))
      · exact ih h.2 r hr s hs
theorem exs_append (x y : List Rn) : exs (x ++ y) = exs x ++ exs y := by simp [exs]
theorem exs_one (r : Rn) : exs [r] = ex r := by simp [exs]

theorem both_head (p q : Rn) (hp : 0 ≤ p.n) (hq : 0 ≤ q.n) (i j : Int) : (⟨i, j, 1⟩ : Rn) ∈ exs (if max p.b q.a < min (p.b + p.n) (q.a + q.n) then [⟨p.a + (max p.b q.a - p.b), q.b + (max p.b q.a - q.a), min (p.b + p.n) (q.a + q.n) - max p.b q.a⟩] else []) ↔ ∃ t, (⟨i, t, 1⟩ : Rn) ∈ ex p ∧ (⟨t, j, 1⟩ : Rn) ∈ ex q := by
  obtain ⟨F, hF, f1, f2, f3⟩ : ∃ F, max p.b q.a = F ∧ p.b ≤ F ∧ q.a ≤ F ∧ (F = p.b ∨ F = q.a) := ⟨_, rfl, by omega, by omega, by omega⟩
  obtain ⟨T, hT, t1, t2, t3⟩ : ∃ T, min (p.b + p.n) (q.a + q.n) = T ∧ T ≤ p.b + p.n ∧ T ≤ q.a + q.n ∧ (T = p.b + p.n ∨ T = q.a + q.n) := ⟨_, rfl, by omega, by omega, by omega⟩
  rw [hF, hT]
  clear hF hT
  simp only [mem_ex]
  obtain ⟨k, hk⟩ : ∃ k : Nat, p.n.toNat = k := ⟨_, rfl⟩
  obtain ⟨o, ho⟩ : ∃ o : Nat, q.n.toNat = o := ⟨_, rfl⟩
  have hk' : p.n = k := by omega
  have ho' : q.n = o := by omega
  rw [hk, ho]
  rw [hk'] at t1 t3
  rw [ho'] at t2 t3
  split
  · rw [exs_one, mem_ex]
    dsimp only
    obtain ⟨u, hu⟩ : ∃ u : Nat, (T - F).toNat = u := ⟨_, rfl⟩
    have hu' : T - F = u := by omega
    rw [hu]
    constructor
    · rintro ⟨_, h1, h2, h3⟩
      exact ⟨i - p.a + p.b, ⟨trivial, by omega, by omega, by omega⟩, trivial, by omega, by omega, by omega⟩
    · rintro ⟨t, ⟨_, h1, h2, h3⟩, _, h4, h5, h6⟩
      exact ⟨rfl, by omega, by omega, by omega⟩
  · constructor
    · intro h; simp [exs] at h
    · rintro ⟨t, ⟨_, h1, h2, h3⟩, _, h4, h5, h6⟩
      omega

theorem both_spec (X Y : List Rn) (a b c d : Int) (hX : Chain a b X) (hY : Chain c d Y) :
    (∀ i j, (⟨i, j, 1⟩ : Rn) ∈ exs (bothR X Y) ↔ ∃ t, (⟨i, t, 1⟩ : Rn) ∈ exs X ∧ (⟨t, j, 1⟩ : Rn) ∈ exs Y) ∧ (∀ r ∈ bothR X Y, 0 < r.n) ∧ Up (exs (bothR X Y)) := by
  induction X, Y using bothR.induct generalizing a b c d with
  | case1 Y => rw [bothR]; exact ⟨by simp [exs], by simp, List.Pairwise.nil⟩
  | case2 p x => rw [bothR]; exact ⟨by simp [exs], by simp, List.Pairwise.nil⟩
  | case3 p x q y ih1 ih2 =>
    by_cases hto : min (p.b + p.n) (q.a + q.n) = p.b + p.n
    · have ih := ih1
      obtain ⟨x1, x2, x3, x4⟩ := hX
      have hY0 := hY
      obtain ⟨y1, y2, y3, y4⟩ := hY
      obtain ⟨i1, i2, i3⟩ := ih _ _ _ _ x4 hY0
      rw [bothR, if_pos hto]
      have hhead : ∀ i j, (⟨i, j, 1⟩ : Rn) ∈ exs (if max p.b q.a < min (p.b + p.n) (q.a + q.n) then [⟨p.a + (max p.b q.a - p.b), q.b + (max p.b q.a - q.a), min (p.b + p.n) (q.a + q.n) - max p.b q.a⟩] else []) ↔ ∃ t, (⟨i, t, 1⟩ : Rn) ∈ ex p ∧ (⟨t, j, 1⟩ : Rn) ∈ ex q := both_head p q x3 y3
      refine ⟨fun i j => ?_, fun r hr => ?_, ?_⟩
      · rw [exs_append, List.mem_append, hhead, i1]
        constructor
        · rintro (⟨t, h1, h2⟩ | ⟨t, h1, h2⟩)
          · exact ⟨t, by rw [exs_cons]; exact List.mem_append_left _ h1, by rw [exs_cons]; exact List.mem_append_left _ h2⟩
          · exact ⟨t, by rw [exs_cons]; exact List.mem_append_right _ h1, h2⟩
        · rintro ⟨t, h1, h2⟩
          rw [exs_cons, List.mem_append] at h1
          rcases h1 with h1 | h1
          · rw [exs_cons, List.mem_append] at h2
            rcases h2 with h2 | h2
            · exact .inl ⟨t, h1, h2⟩
            · rw [mem_ex] at h1
              have := y4.low _ h2
              dsimp only at h1 this
              omega
          · exact .inr ⟨t, h1, h2⟩
      · rw [List.mem_append] at hr
        rcases hr with hr | hr
        · split at hr
          · rw [List.mem_singleton] at hr
            subst hr
            dsimp only
            omega
          · simp at hr
        · exact i2 r hr
      · rw [exs_append]
        refine List.pairwise_append.2 ⟨?_, i3, fun r hr s hs => ?_⟩
        · split
          · rw [exs_one]; exact up_un _ _ _
          · exact List.Pairwise.nil
        · obtain ⟨i, j, z⟩ := r
          have hz : z = 1 := by
            split at hr
            · rw [exs_one, mem_ex] at hr; exact hr.1
            · simp [exs] at hr
          subst hz
          obtain ⟨t, h1, h2⟩ := (hhead i j).1 hr
          obtain ⟨i', j', z'⟩ := s
          have hz' : z' = 1 := by
            rw [mem_exs] at hs
            obtain ⟨p', _, hp⟩ := hs
            rw [mem_ex] at hp
            exact hp.1
          subst hz'
          obtain ⟨t', h3, h4⟩ := (i1 i' j').1 hs
          have l3 := x4.low _ h3
          rw [mem_ex] at h1
          dsimp only at h1 l3 ⊢
          refine ⟨by omega, ?_⟩
          have hc := up_cmp hY0.up ⟨t, j, 1⟩ (by rw [exs_cons]; exact List.mem_append_left _ h2) ⟨t', j', 1⟩ h4
          rcases hc with hc | hc | hc
          · cases hc; omega
          · exact hc.2
          · dsimp only at hc; omega
    · have ih := ih2
      have hX0 := hX
      obtain ⟨x1, x2, x3, x4⟩ := hX
      obtain ⟨y1, y2, y3, y4⟩ := hY
      obtain ⟨i1, i2, i3⟩ := ih _ _ _ _ hX0 y4
      rw [bothR, if_neg hto]
      have hhead : ∀ i j, (⟨i, j, 1⟩ : Rn) ∈ exs (if max p.b q.a < min (p.b + p.n) (q.a + q.n) then [⟨p.a + (max p.b q.a - p.b), q.b + (max p.b q.a - q.a), min (p.b + p.n) (q.a + q.n) - max p.b q.a⟩] else []) ↔ ∃ t, (⟨i, t, 1⟩ : Rn) ∈ ex p ∧ (⟨t, j, 1⟩ : Rn) ∈ ex q := both_head p q x3 y3
      refine ⟨fun i j => ?_, fun r hr => ?_, ?_⟩
      · rw [exs_append, List.mem_append, hhead, i1]
        constructor
        · rintro (⟨t, h1, h2⟩ | ⟨t, h1, h2⟩)
          · exact ⟨t, by rw [exs_cons]; exact List.mem_append_left _ h1, by rw [exs_cons]; exact List.mem_append_left _ h2⟩
          · exact ⟨t, h1, by rw [exs_cons]; exact List.mem_append_right _ h2⟩
        · rintro ⟨t, h1, h2⟩
          rw [exs_cons, List.mem_append] at h2
          rcases h2 with h2 | h2
          · rw [exs_cons, List.mem_append] at h1
            rcases h1 with h1 | h1
            · exact .inl ⟨t, h1, h2⟩
            · rw [mem_ex] at h2
              have := x4.low _ h1
              dsimp only at h2 this
              omega
          · exact .inr ⟨t, h1, h2⟩
      · rw [List.mem_append] at hr
        rcases hr with hr | hr
        · split at hr
          · rw [List.mem_singleton] at hr
            subst hr
            dsimp only
            omega
          · simp at hr
        · exact i2 r hr
      · rw [exs_append]
        refine List.pairwise_append.2 ⟨?_, i3, fun r hr s hs => ?_⟩
        · split
          · rw [exs_one]; exact up_un _ _ _
          · exact List.Pairwise.nil
        · obtain ⟨i, j, z⟩ := r
          have hz : z = 1 := by
            split at hr
            · rw [exs_one, mem_ex] at hr; exact hr.1
            · simp [exs] at hr
          subst hz
          obtain ⟨t, h1, h2⟩ := (hhead i j).1 hr
          obtain ⟨i', j', z'⟩ := s
          have hz' : z' = 1 := by
            rw [mem_exs] at hs
            obtain ⟨p', _, hp⟩ := hs
            rw [mem_ex] at hp
            exact hp.1
          subst hz'
          obtain ⟨t', h3, h4⟩ := (i1 i' j').1 hs
          have l4 := y4.low _ h4
          rw [mem_ex] at h2
          dsimp only at h2 l4 ⊢
          refine ⟨?_, by omega⟩
          have hc := up_cmp hX0.up ⟨i, t, 1⟩ (by rw [exs_cons]; exact List.mem_append_left _ h1) ⟨i', t', 1⟩ h3
          rcases hc with hc | hc | hc
          · cases hc; omega
          · exact hc.1
          · dsimp only at hc; omega

/-- the pairs of two scripts, one behind the other -/
def compP (x y : List Ch) (n m k : Int) : List Rn := exs (bothR (rns 0 0 n m x) (rns 0 0 m k y))
/-- two scripts, one behind the other -/
def compS (x y : List Ch) (n m k : Int) : List Ch := betw 0 0 (bothR (rns 0 0 n m x) (rns 0 0 m k y) ++ [⟨n, k, 0⟩])
section
variable {x y : List Ch} {n m k : Int}
theorem comp_spec (hx : Script x n m) (hy : Script y m k) : (∀ i j, (⟨i, j, 1⟩ : Rn) ∈ compP x y n m k ↔ ∃ t, (⟨i, t, 1⟩ : Rn) ∈ U 0 0 n m x ∧ (⟨t, j, 1⟩ : Rn) ∈ U 0 0 m k y) ∧ Up (compP x y n m k) ∧ compS x y n m k = betw 0 0 (compP x y n m k ++ [⟨n, k, 0⟩]) := by
  obtain ⟨h1, h2, h3⟩ := both_spec _ _ _ _ _ _ hx.2.2.chain hy.2.2.chain
  exact ⟨h1, h3, betw_exs _ _ _ h2 _⟩
theorem comp_unit : ∀ r ∈ compP x y n m k, r.n = 1 := by
  intro r hr
  unfold compP at hr
  rw [mem_exs] at hr
  obtain ⟨p, _, hp⟩ := hr
  rw [mem_ex] at hp
  exact hp.1
theorem comp_fit (hx : Script x n m) (hy : Script y m k) : Fit 0 0 n k (compP x y n m k) := by
  obtain ⟨h1, h2, _⟩ := comp_spec hx hy
  refine fit_of_up h2 (fun r hr => ?_) hx.1 hy.2.1
  have hu := comp_unit r hr
  obtain ⟨i, j, z⟩ := r
  dsimp only at hu
  subst hu
  obtain ⟨t, q1, q2⟩ := (h1 i j).1 hr
  have b1 := hx.2.2.bounds _ q1
  have b2 := hy.2.2.bounds _ q2
  dsimp only at b1 b2 ⊢
  omega
theorem comp_script (hx : Script x n m) (hy : Script y m k) (hn : n ≤ 2147483647) (hk : k ≤ 2147483647) : Script (compS x y n m k) n k ∧ U 0 0 n k (compS x y n m k) = compP x y n m k := by
  obtain ⟨_, _, h3⟩ := comp_spec hx hy
  rw [h3]
  have := fit_right (comp_fit hx hy) (Int.le_refl _) (Int.le_refl _) hn hk
  exact ⟨⟨hx.1, hy.2.1, this.1⟩, this.2⟩
end
theorem unit_ext {P Q : List Rn} (hP : UpA P) (hQ : UpA Q) (p1 : ∀ r ∈ P, r.n = 1) (q1 : ∀ r ∈ Q, r.n = 1) (h : ∀ i j, (⟨i, j, 1⟩ : Rn) ∈ P ↔ (⟨i, j, 1⟩ : Rn) ∈ Q) : P = Q := by
  refine upA_ext hP hQ fun r => ?_
  obtain ⟨i, j, z⟩ := r
  constructor
  · intro hr
    have : z = 1 := p1 _ hr
    subst this
    exact (h i j).1 hr
  · intro hr
    have : z = 1 := q1 _ hr
    subst this
    exact (h i j).2 hr
theorem U_unit {f : Bool} {a b n m : Int} {l : List Ch} (h : Right f a b n m l) : ∀ r ∈ U a b n m l, r.n = 1 := fun r hr => (h.bounds r hr).1
/-- putting together is associative -/
theorem comp_assoc {x y z : List Ch} {n m k o : Int} (hx : Script x n m) (hy : Script y m k) (hz : Script z k o) (hn : n ≤ 2147483647) (hm : m ≤ 2147483647) (hk : k ≤ 2147483647) (ho : o ≤ 2147483647) :
    compS (compS x y n m k) z n k o = compS x (compS y z m k o) n m o := by
  obtain ⟨s1, u1⟩ := comp_script hx hy hn hk
  obtain ⟨s2, u2⟩ := comp_script hy hz hm ho
  obtain ⟨m1, p1, e1⟩ := comp_spec s1 hz
  obtain ⟨m2, p2, e2⟩ := comp_spec hx s2
  rw [e1, e2]
  congr 2
  refine unit_ext p1.a p2.a comp_unit comp_unit fun i j => ?_
  rw [m1, m2, u1, u2]
  constructor
  · rintro ⟨t, h1, h2⟩
    obtain ⟨s, h3, h4⟩ := ((comp_spec hx hy).1 i t).1 h1
    exact ⟨s, h3, ((comp_spec hy hz).1 s j).2 ⟨t, h4, h2⟩⟩
  · rintro ⟨s, h3, h4⟩
    obtain ⟨t, h5, h6⟩ := ((comp_spec hy hz).1 s j).1 h4
    exact ⟨t, ((comp_spec hx hy).1 i t).2 ⟨s, h3, h5⟩, h6⟩
theorem nil_script {n : Int} (h : 0 ≤ n) : Script [] n n := ⟨h, h, h, h, rfl⟩
theorem comp_nil {x : List Ch} {n m : Int} (hx : Script x n m) : compS x [] n m m = x := by
  have hy := nil_script hx.2.1
  obtain ⟨m1, p1, e1⟩ := comp_spec hx hy
  rw [e1]
  have : compP x [] n m m = U 0 0 n m x := by
    refine unit_ext p1.a hx.2.2.up.a comp_unit (U_unit hx.2.2) fun i j => ?_
    rw [m1]
    constructor
    · rintro ⟨t, h1, h2⟩
      rw [U_nil, mem_un] at h2
      dsimp only at h2
      obtain rfl : t = j := by omega
      exact h1
    · intro h
      refine ⟨j, h, ?_⟩
      have := hx.2.2.bounds _ h
      rw [U_nil, mem_un]
      dsimp only at this ⊢
      omega
  rw [this, betw_U hx.2.2]
theorem nil_comp {x : List Ch} {n m : Int} (hx : Script x n m) : compS [] x n n m = x := by
  have hy := nil_script hx.1
  obtain ⟨m1, p1, e1⟩ := comp_spec hy hx
  rw [e1]
  have : compP [] x n n m = U 0 0 n m x := by
    refine unit_ext p1.a hx.2.2.up.a comp_unit (U_unit hx.2.2) fun i j => ?_
    rw [m1]
    constructor
    · rintro ⟨t, h1, h2⟩
      rw [U_nil, mem_un] at h1
      dsimp only at h1
      obtain rfl : t = i := by omega
      exact h2
    · intro h
      refine ⟨i, ?_, h⟩
      have := hx.2.2.bounds _ h
      rw [U_nil, mem_un]
      dsimp only at this ⊢
      omega
  rw [this, betw_U hx.2.2]

/-- two lists of what is kept, one behind the other -/
def compK (p q : List Int) : List Int := p.map fun z => if 0 ≤ z then q.getD z.toNat (-1) else -1
theorem compK_kept {x y : List Ch} {n m k : Int} (hx : Script x n m) (hy : Script y m k) : keptR 0 (compK (kr 0 0 n m x) (kr 0 0 m k y)) = compP x y n m k := by
  obtain ⟨m1, p1, _⟩ := comp_spec hx hy
  refine unit_ext (keptR_up _ _) p1.a (fun r hr => (mem_keptR.1 hr).1) comp_unit fun i j => ?_
  rw [m1]
  rw [← kr_kept hx.2.2 (Int.le_refl _), ← kr_kept hy.2.2 (Int.le_refl _)]
  simp only [mem_keptR]
  have hp := kr_each hx.2.2 (Int.le_refl _)
  have hq := kr_each hy.2.2 (Int.le_refl _)
  have hql := kr_length hy.2.2
  generalize kr 0 0 n m x = p at *
  generalize kr 0 0 m k y = q at *
  simp only [compK, List.getElem?_map, true_and, Int.sub_zero]
  constructor
  · rintro ⟨h1, h2, h3⟩
    cases hz : p[i.toNat]? with
    | none => rw [hz] at h2; simp at h2
    | some z =>
      rw [hz] at h2
      simp only [Option.map_some, Option.some_inj] at h2
      split at h2
      · rename_i h0
        refine ⟨z, ⟨h1, rfl, by omega⟩, h0, ?_, h3⟩
        rw [List.getD, ] at h2
        cases hq2 : q[z.toNat]? with
        | none => rw [hq2] at h2; simp at h2; omega
        | some w => rw [hq2] at h2; simp at h2; rw [h2]
      · omega
  · rintro ⟨t, ⟨h1, h2, h3⟩, h4, h5, h6⟩
    refine ⟨h1, ?_, h6⟩
    rw [h2]
    simp only [Option.map_some, Option.some_inj]
    rw [if_pos h4, List.getD, h5]
    rfl
end Go.Proofs.YtgckcbcdmmnkoaaGreatDoor

/- Going back, what a script costs, and what it reaches: plain mathematics. -/
set_option maxRecDepth 20000
namespace Go.Proofs.YtgckcbcdmmnkoaaGreatDoor

/-- a change the other way round -/
def inv (c : Ch) : Ch := ⟨c.B, c.BN, c.A, c.AN⟩
def invL (l : List Ch) : List Ch := l.map inv
def sw (r : Rn) : Rn := ⟨r.b, r.a, r.n⟩
theorem inv_inv (c : Ch) : inv (inv c) = c := rfl
theorem invL_invL (l : List Ch) : invL (invL l) = l := by simp [invL, Function.comp_def, inv_inv]
theorem numB_inv (c : Ch) : numB (inv c) = true ↔ numB c = true := by
  rw [numB_iff, numB_iff]
  simp only [inv]
  omega
theorem Right.inv {f : Bool} {a b n m : Int} {l : List Ch} (h : Right f a b n m l) : Right f b a m n (invL l) := by
  induction l generalizing f a b with
  | nil => exact ⟨h.2.1, h.1, by have := h.2.2; omega⟩
  | cons c l ih =>
    obtain ⟨⟨h1, h2, h3, h4⟩, h5⟩ := h
    refine ⟨⟨(numB_inv c).2 h1, ?_, ?_, ?_⟩, ih h5⟩
    · show c.B - b = c.A - a; omega
    · show b ≤ c.B; omega
    · rcases h4 with h4 | h4
      · exact .inl h4
      · right; show b < c.B; omega
theorem Script.inv {n m : Int} {l : List Ch} (h : Script l n m) : Script (invL l) m n := ⟨h.2.1, h.1, h.2.2.inv⟩
theorem un_sw (a b : Int) (k : Nat) : (un a b k).map sw = un b a k := by
  induction k generalizing a b with
  | zero => rfl
  | succ k ih => rw [un, un, List.map_cons, ih]; rfl
theorem U_inv {f : Bool} {a b n m : Int} {l : List Ch} (h : Right f a b n m l) : U b a m n (invL l) = (U a b n m l).map sw := by
  induction l generalizing f a b with
  | nil =>
    obtain ⟨h1, h2, h3⟩ := h
    rw [invL, List.map_nil, U_nil, U_nil, un_sw, h3]
  | cons c l ih =>
    obtain ⟨⟨h1, h2, h3, h4⟩, h5⟩ := h
    have := ih h5
    unfold invL at this ⊢
    rw [List.map_cons, U_cons, U_cons, List.map_append, un_sw, ← this, h2]
    rfl

/-- a cost with some lines on top -/
def mo (s z : Int) : Int := s + min (max z 0) (2147483647 - s)
def costF : Int → List Ch → Int
  | s, [] => s
  | s, c :: l => costF (mo (mo s c.AN) c.BN) l
theorem mo_range {s z : Int} (h0 : 0 ≤ s) (h1 : s ≤ 2147483647) : 0 ≤ mo s z ∧ mo s z ≤ 2147483647 := by unfold mo; omega
theorem mo_add {s z : Int} (h0 : 0 ≤ z) (h1 : s + z ≤ 2147483647) : mo s z = s + z := by unfold mo; omega
theorem cost_right {f : Bool} {a b n m s : Int} {l : List Ch} (h : Right f a b n m l) (h0 : 0 ≤ s) (hs : s + (n - a) + (m - b) ≤ 2147483647) : costF s l = s + (n - a) + (m - b) - 2 * (U a b n m l).length := by
  have hul : ∀ (a b : Int) (k : Nat), (un a b k).length = k := by
    intro a b k
    induction k generalizing a b with
    | zero => rfl
    | succ k ih => rw [un, List.length_cons, ih]
  induction l generalizing f a b s with
  | nil =>
    obtain ⟨h1, h2, h3⟩ := h
    rw [costF, U_nil, hul]
    omega
  | cons c l ih =>
    obtain ⟨⟨h1, h2, h3, h4⟩, h5⟩ := h
    rw [numB_iff] at h1
    have hle := h5.le
    have e1 : mo s c.AN = s + c.AN := mo_add (by omega) (by omega)
    have e2 : mo (s + c.AN) c.BN = s + c.AN + c.BN := mo_add (by omega) (by omega)
    rw [costF, e1, e2, ih h5 (by omega) (by omega), U_cons, List.length_append, hul]
    omega
theorem cost_script {n m : Int} {l : List Ch} (h : Script l n m) (hs : n + m ≤ 2147483647) : costF 0 l = n + m - 2 * (U 0 0 n m l).length := by
  have := cost_right h.2.2 (Int.le_refl 0) (by omega)
  omega

/-- how many lines are taken out -/
def takenL : List Int → Int
  | [] => 0
  | z :: t => (if z < 0 then 1 else 0) + takenL t
theorem taken_kept {i : Int} {K : List Int} (h : ∀ z ∈ K, z = -1 ∨ 0 ≤ z) : takenL K = K.length - (keptR i K).length := by
  induction K generalizing i with
  | nil => rfl
  | cons z t ih =>
    have hz := h z (List.mem_cons_self ..)
    have ht := ih (i := i + 1) fun y hy => h y (List.mem_cons_of_mem _ hy)
    rw [takenL, keptR, ht]
    simp only [List.length_cons]
    split
    · rw [if_pos (by omega)]; omega
    · rw [if_neg (by omega)]; simp only [List.length_cons]; omega

theorem cut_eq {A B : List (List UInt8)} {a b : Int} {k : Nat} (ha : 0 ≤ a) (hb : 0 ≤ b) (h : ∀ r ∈ un a b k, A[r.a.toNat]? = B[r.b.toNat]?) : cut A a k = cut B b k := by
  apply List.ext_getElem?
  intro j
  simp only [cut, Int.toNat_natCast, List.getElem?_take, List.getElem?_drop]
  split
  · have := h ⟨a + j, b + j, 1⟩ (by rw [mem_un]; dsimp only; omega)
    dsimp only at this
    rw [show a.toNat + j = (a + (j : Int)).toNat by omega, show b.toNat + j = (b + (j : Int)).toNat by omega]
    exact this
  · rfl
theorem drop_cut {B : List (List UInt8)} {b : Int} {k : Nat} (hb : 0 ≤ b) : cut B b k ++ B.drop (b + k).toNat = B.drop b.toNat := by
  rw [cut, Int.toNat_natCast, show (b + (k : Int)).toNat = b.toNat + k by omega, ← List.drop_drop, List.take_append_drop]
theorem reach {A B : List (List UInt8)} {f : Bool} {a b : Int} {l : List Ch} (h : Right f a b A.length B.length l) (ha : 0 ≤ a) (hb : 0 ≤ b) (hs : ∀ r ∈ U a b A.length B.length l, A[r.a.toNat]? = B[r.b.toNat]?) :
    (piecesL a b A.length B.length l).flatMap (pa A B) = B.drop b.toNat := by
  induction l generalizing f a b with
  | nil =>
    obtain ⟨h1, h2, h3⟩ := h
    rw [U_nil] at hs
    simp only [piecesL, List.flatMap_cons, List.flatMap_nil, List.append_nil, pa]
    obtain ⟨k, hk⟩ : ∃ k : Nat, (A.length : Int) - a = k := ⟨((A.length : Int) - a).toNat, by omega⟩
    rw [hk, Int.toNat_natCast] at hs
    rw [hk, cut_eq ha hb hs]
    have e : cut B (B.length : Int) 0 = [] := by simp [cut]
    rw [e, List.append_nil]
    have := drop_cut (B := B) (k := k) hb
    rw [← this, List.drop_of_length_le (by omega), List.append_nil]
  | cons c l ih =>
    obtain ⟨⟨h1, h2, h3, h4⟩, h5⟩ := h
    rw [numB_iff] at h1
    rw [U_cons] at hs
    have hi := ih h5 (by omega) (by omega) fun r hr => hs r (List.mem_append_right _ hr)
    simp only [piecesL, List.flatMap_cons, pa]
    rw [hi]
    obtain ⟨k, hk⟩ : ∃ k : Nat, c.A - a = k := ⟨(c.A - a).toNat, by omega⟩
    obtain ⟨o, ho⟩ : ∃ o : Nat, c.BN = o := ⟨c.BN.toNat, by omega⟩
    rw [hk, Int.toNat_natCast] at hs
    rw [hk, ho, cut_eq ha hb fun r hr => hs r (List.mem_append_left _ hr)]
    have e1 := drop_cut (B := B) (b := c.B) (k := o) (by omega)
    have e2 := drop_cut (B := B) (b := b) (k := k) hb
    rw [List.append_assoc, e1, show c.B = b + k by omega, e2]
theorem apply_reach {A B : List (List UInt8)} {l : List Ch} (h : Script l A.length B.length) (hs : ∀ r ∈ U 0 0 A.length B.length l, A[r.a.toNat]? = B[r.b.toNat]?) : applyL l A B = B := by
  have := reach h.2.2 (Int.le_refl _) (Int.le_refl _) hs
  simpa [applyL] using this
end Go.Proofs.YtgckcbcdmmnkoaaGreatDoor

/- Hunks as lists: which are right, their lines, how they are made and gone back, what script they are; plain mathematics. -/
set_option maxRecDepth 20000
namespace Go.Proofs.YtgckcbcdmmnkoaaGreatDoor

/-- a line with its sign -/
structure Mk where
  sg : Int
  tx : List UInt8
/-- a hunk -/
structure Hk where
  A : Int
  AN : Int
  B : Int
  BN : Int
  ls : List Mk
/-- a sign of one of the three kinds: kept 32, taken out 45, put in 43 -/
def okS (s : Int) : Bool := decide (s = 32) || decide (s = 45) || decide (s = 43)
/-- the lines of a side: all but those of one sign -/
def pkL (no : Int) : List Mk → List (List UInt8)
  | [] => []
  | m :: l => if m.sg ≠ no ∧ okS m.sg = true then m.tx :: pkL no l else pkL no l
def oldL (h : Hk) : List (List UInt8) := pkL 43 h.ls
def newL (h : Hk) : List (List UInt8) := pkL 45 h.ls
theorem pkL_append (no : Int) (x y : List Mk) : pkL no (x ++ y) = pkL no x ++ pkL no y := by
  induction x with
  | nil => rfl
  | cons m x ih =>
    simp only [List.cons_append, pkL, ih]
    split <;> simp
theorem pkL_length (no : Int) (x : List Mk) : (pkL no x).length ≤ x.length := by
  induction x with
  | nil => simp [pkL]
  | cons m x ih =>
    simp only [pkL]
    split <;> simp <;> omega

/-- changes in groups: those between which at most twice so many lines are kept are together -/
def gcons (ctx : Int) (c : Ch) : List Ch → List (List Ch) → List (List Ch)
  | d :: _, g :: gs => if d.A - c.A - c.AN ≤ 2 * ctx then (c :: g) :: gs else [c] :: g :: gs
  | _, gs => [c] :: gs
def grp (ctx : Int) : List Ch → List (List Ch)
  | [] => []
  | c :: l => gcons ctx c l (grp ctx l)
theorem grp_nil (ctx : Int) : grp ctx [] = [] := rfl
theorem grp_one (ctx : Int) (c : Ch) : grp ctx [c] = [[c]] := rfl
theorem grp_head (ctx : Int) (c : Ch) (l : List Ch) : ∃ g gs, grp ctx (c :: l) = (c :: g) :: gs := by
  cases l with
  | nil => exact ⟨[], [], rfl⟩
  | cons d l =>
    show ∃ g gs, gcons ctx c (d :: l) (grp ctx (d :: l)) = _
    cases grp ctx (d :: l) with
    | nil => exact ⟨_, _, rfl⟩
    | cons g gs =>
      simp only [gcons]
      split
      · exact ⟨_, _, rfl⟩
      · exact ⟨_, _, rfl⟩
theorem grp_cons2 (ctx : Int) (c d : Ch) (l : List Ch) : ∃ g gs, grp ctx (d :: l) = (d :: g) :: gs ∧ grp ctx (c :: d :: l) = if d.A - c.A - c.AN ≤ 2 * ctx then (c :: d :: g) :: gs else [c] :: (d :: g) :: gs := by
  obtain ⟨g, gs, h⟩ := grp_head ctx d l
  refine ⟨g, gs, h, ?_⟩
  show gcons ctx c (d :: l) (grp ctx (d :: l)) = _
  rw [h]
  rfl
/-- the groups hold the changes, in order -/
theorem grp_flatten (ctx : Int) (l : List Ch) : (grp ctx l).flatten = l := by
  induction l with
  | nil => rfl
  | cons c l ih =>
    cases l with
    | nil => rfl
    | cons d l =>
      obtain ⟨g, gs, h1, h2⟩ := grp_cons2 ctx c d l
      rw [h2]
      rw [h1] at ih
      split <;> simp at ih ⊢ <;> exact ih
theorem grp_ne (ctx : Int) (l : List Ch) : ∀ g ∈ grp ctx l, g ≠ [] := by
  induction l with
  | nil => simp [grp]
  | cons c l ih =>
    cases l with
    | nil => simp [grp, gcons]
    | cons d l =>
      obtain ⟨g, gs, h1, h2⟩ := grp_cons2 ctx c d l
      rw [h2]
      rw [h1] at ih
      intro x hx
      split at hx
      · simp at hx
        rcases hx with rfl | hx
        · simp
        · exact ih x (by simp [hx])
      · simp at hx
        rcases hx with rfl | rfl | hx
        · simp
        · simp
        · exact ih x (by simp [hx])
theorem grp_eq_nil (ctx : Int) (l : List Ch) : grp ctx l = [] ↔ l = [] := by
  constructor
  · intro h
    have := grp_flatten ctx l
    rw [h] at this
    exact this.symm
  · rintro rfl
    rfl
/-- a change more: in the last group, or in one of its own -/
theorem grp_snoc (ctx : Int) (l : List Ch) (c d : Ch) : ∃ gs g, grp ctx (l ++ [c]) = gs ++ [g ++ [c]] ∧ grp ctx (l ++ [c] ++ [d]) = if d.A - c.A - c.AN ≤ 2 * ctx then gs ++ [g ++ [c] ++ [d]] else gs ++ [g ++ [c]] ++ [[d]] := by
  induction l with
  | nil =>
    refine ⟨[], [], rfl, ?_⟩
    rfl
  | cons e l ih =>
    obtain ⟨gs, g, h1, h2⟩ := ih
    have key : ∀ (x : List Ch), x ≠ [] → ∀ G : List (List Ch), grp ctx x = G → ∃ e', x.head? = some e' ∧ grp ctx (e :: x) = if e'.A - e.A - e.AN ≤ 2 * ctx then (match G with | g :: gs => (e :: g) :: gs | [] => [[e]]) else [e] :: G := by
      intro x hx G hG
      cases x with
      | nil => exact absurd rfl hx
      | cons y x =>
        obtain ⟨g, gs, q1, q2⟩ := grp_cons2 ctx e y x
        refine ⟨y, rfl, ?_⟩
        rw [q2]
        rw [q1] at hG
        subst hG
        rfl
    obtain ⟨e1, f1, k1⟩ := key (l ++ [c]) (by simp) _ h1
    obtain ⟨e2, f2, k2⟩ := key (l ++ [c] ++ [d]) (by simp) _ h2
    have he : e1 = e2 := by
      cases l with
      | nil => simp at f1 f2; rw [← f1, ← f2]
      | cons y l => simp at f1 f2; rw [← f1, ← f2]
    subst he
    by_cases hn : e1.A - e.A - e.AN ≤ 2 * ctx
    · rw [if_pos hn] at k1 k2
      cases gs with
      | nil =>
        refine ⟨[], e :: g, by rw [List.cons_append, k1]; rfl, ?_⟩
        rw [List.cons_append, List.cons_append, k2]
        by_cases hd : d.A - c.A - c.AN ≤ 2 * ctx
        · rw [if_pos hd, if_pos hd]; rfl
        · rw [if_neg hd, if_neg hd]; rfl
      | cons g0 gs =>
        refine ⟨(e :: g0) :: gs, g, by rw [List.cons_append, k1]; rfl, ?_⟩
        rw [List.cons_append, List.cons_append, k2]
        by_cases hd : d.A - c.A - c.AN ≤ 2 * ctx
        · rw [if_pos hd, if_pos hd]; rfl
        · rw [if_neg hd, if_neg hd]; rfl
    · rw [if_neg hn] at k1 k2
      refine ⟨[e] :: gs, g, by rw [List.cons_append, k1]; rfl, ?_⟩
      rw [List.cons_append, List.cons_append, k2]
      by_cases hd : d.A - c.A - c.AN ≤ 2 * ctx
      · rw [if_pos hd, if_pos hd]; rfl
      · rw [if_neg hd, if_neg hd]; rfl
/-- with more lines kept there are never more groups -/
theorem grp_fewer {c1 c2 : Int} (h : c1 ≤ c2) (l : List Ch) : (grp c2 l).length ≤ (grp c1 l).length := by
  induction l with
  | nil => simp [grp]
  | cons c l ih =>
    cases l with
    | nil => simp [grp, gcons]
    | cons d l =>
      obtain ⟨g, gs, p1, p2⟩ := grp_cons2 c1 c d l
      obtain ⟨g', gs', q1, q2⟩ := grp_cons2 c2 c d l
      rw [p2, q2]
      rw [p1, q1] at ih
      simp only [List.length_cons] at ih
      split <;> split <;> simp <;> omega

/-- lines with a sign -/
def mks (s : Int) (x : List (List UInt8)) : List Mk := x.map fun t => ⟨s, t⟩
/-- a group's lines, from a place of the first text on up to another -/
def bodyH (a b : List (List UInt8)) (e : Int) : Int → List Ch → List Mk
  | p, [] => mks 32 (cut a p (e - p))
  | p, c :: g => mks 32 (cut a p (c.A - p)) ++ (mks 45 (cut a c.A c.AN) ++ (mks 43 (cut b c.B c.BN) ++ bodyH a b e (c.A + c.AN) g))
/-- a hunk's numbers: where it stands, and how many lines it has -/
def cntH (a b : Int) (ls : List Mk) : Hk := ⟨if 0 < (pkL 43 ls).length then a + 1 else a, (pkL 43 ls).length, if 0 < (pkL 45 ls).length then b + 1 else b, (pkL 45 ls).length, ls⟩
/-- how many lines are kept ahead of a group -/
def ahd (ctx : Int) (g : List Ch) : Int := match g with | [] => 0 | f :: _ => min ctx f.A
/-- where a group's lines end -/
def endH (n ctx : Int) : List Ch → Int
  | [] => 0
  | [c] => min n (c.A + c.AN + ctx)
  | _ :: d :: g => endH n ctx (d :: g)
/-- a group's hunk -/
def oneH (a b : List (List UInt8)) (ctx : Int) (g : List Ch) : Hk := match g with
  | [] => ⟨0, 0, 0, 0, []⟩
  | f :: g => cntH (f.A - min ctx f.A) (f.B - min ctx f.A) (bodyH a b (endH a.length ctx (f :: g)) (f.A - min ctx f.A) (f :: g))
/-- Group's error -/
def grpE (l : List Ch) (n m ctx : Int) : Int := if chk l n m ≠ 0 then chk l n m else if ctx < 0 ∨ 100 < ctx then 2 else 0
/-- Group's groups -/
def grpR (l : List Ch) (n m ctx : Int) : List (List Ch) := if grpE l n m ctx = 0 then grp ctx l else []
/-- Make's hunks -/
def mkR (l : List Ch) (a b : List (List UInt8)) (ctx : Int) : List Hk := (grpR l a.length b.length ctx).map (oneH a b ctx)

/-- is a text a line? has it its line feed? -/
def linB (s : List UInt8) : Bool := !s.isEmpty && s.dropLast.all fun c => c != 10
def fdB (s : List UInt8) : Bool := s.getLast? == some 10
/-- no line with one of two signs -/
def lstB (sg : Int) (l : List Mk) : Bool := l.all fun m => decide (m.sg ≠ sg) && decide (m.sg ≠ 32)
/-- are all lines as they must be? -/
def fldB : List Mk → Bool
  | [] => true
  | m :: l => linB m.tx && okS m.sg && (fdB m.tx || ((decide (m.sg = 43) || lstB 45 l) && (decide (m.sg = 45) || lstB 43 l))) && fldB l
def rngB (h : Hk) : Bool := nat31 h.A && nat31 h.AN && nat31 h.B && nat31 h.BN && !(decide (h.A = 0) && decide (0 < h.AN)) && !(decide (h.B = 0) && decide (0 < h.BN))
/-- Check's answer -/
def chkH (h : Hk) : Int := if rngB h = false then 2 else if fldB h.ls = false then 6 else if h.AN ≠ (oldL h).length ∨ h.BN ≠ (newL h).length then 120 else if h.ls.all (fun m => decide (m.sg = 32)) = true then 50 else 0
/-- where a hunk stands -/
def atA (h : Hk) : Int := if 0 < h.AN then h.A - 1 else h.A
def atB (h : Hk) : Int := if 0 < h.BN then h.B - 1 else h.B
/-- are hunks in order? -/
def ordB : Int → Int → List Hk → Bool
  | _, _, [] => true
  | u, v, h :: l => decide (u ≤ atA h) && decide (atA h - u = atB h - v) && ordB (atA h + h.AN) (atB h + h.BN) l
/-- the first error -/
def errs : List Hk → Int
  | [] => 0
  | h :: l => if chkH h ≠ 0 then chkH h else errs l
/-- Order's answer -/
def ordH (l : List Hk) : Int := if errs l ≠ 0 then errs l else if ordB 0 0 l = true then 0 else 121

/-- a hunk's lines gone back; x: lines that are put in now, and wait -/
def invG : List Mk → List Mk → List Mk
  | x, [] => x
  | x, m :: l => if m.sg = 43 then ⟨45, m.tx⟩ :: invG x l else if m.sg = 45 then invG (x ++ [⟨43, m.tx⟩]) l else x ++ m :: invG [] l
def invH (h : Hk) : Hk := ⟨h.B, h.BN, h.A, h.AN, invG [] h.ls⟩

/-- does the last change end at these places? (the changes backwards) -/
def endsAt (a b : Int) : List Ch → Bool
  | [] => false
  | c :: _ => decide (c.A + c.AN = a) && decide (c.B + c.BN = b)
/-- a line that is taken out, put in -/
def bmA : List Ch → List Ch
  | [] => []
  | c :: r => ⟨c.A, c.AN + 1, c.B, c.BN⟩ :: r
def bmB : List Ch → List Ch
  | [] => []
  | c :: r => ⟨c.A, c.AN, c.B, c.BN + 1⟩ :: r
/-- a change to go on with -/
def opn (a b : Int) (r : List Ch) : List Ch := if endsAt a b r = true then r else ⟨a, 0, b, 0⟩ :: r
/-- the changes of lines, and of hunks (backwards) -/
def chLs : Int → Int → List Ch → List Mk → List Ch
  | _, _, r, [] => r
  | a, b, r, m :: l => if m.sg = 32 then chLs (a + 1) (b + 1) r l else if m.sg = 45 then chLs (a + 1) b (bmA (opn a b r)) l else chLs a (b + 1) (bmB (opn a b r)) l
def chHs : List Ch → List Hk → List Ch
  | r, [] => r
  | r, h :: l => chHs (chLs (atA h) (atB h) r h.ls) l
/-- Changes' script -/
def chR (l : List Hk) : List Ch := if ordH l = 0 then (chHs [] l).reverse else []
end Go.Proofs.YtgckcbcdmmnkoaaGreatDoor

/- Lines with signs and hunks as cells: what slices of them hold; hunks in a box; append onto an owned row of hunks. -/
set_option maxRecDepth 20000
namespace Go.Proofs.YtgckcbcdmmnkoaaGreatDoor
open Go.RowKit

def mkC (m : Mk) : List Value := [.int .u8 m.sg, .string ⟨m.tx.toArray⟩]
def mkcells (l : List Mk) : List Value := l.flatMap mkC
theorem infoMk : (Tryz.prog.info? 52).map (fun i => (i.zero, i.size, i.bytes)) = some (some (.agg #[.int .u8 0, .string ⟨#[]⟩]), 2, 24) := by kernel_rfl
theorem infoHk : (Tryz.prog.info? 39).map (fun i => (i.zero, i.size, i.bytes)) = some (some (.agg #[.int .i64 0, .int .i64 0, .int .i64 0, .int .i64 0, .slice none 0 0]), 5, 56) := by kernel_rfl
theorem mkcells_length (l : List Mk) : (mkcells l).length = l.length * 2 := by
  induction l with
  | nil => rfl
  | cons c l ih => simp only [mkcells, List.flatMap_cons, List.length_append, List.length_cons] at ih ⊢; rw [ih]; simp [mkC]; omega
theorem mkcells_append (a b : List Mk) : mkcells (a ++ b) = mkcells a ++ mkcells b := by simp [mkcells]
theorem mkcells_one (l : List Mk) : ∀ u ∈ mkcells l, u.oneCell' = true := by
  intro u hu
  simp only [mkcells, List.mem_flatMap, mkC] at hu
  obtain ⟨c, _, h⟩ := hu
  simp only [List.mem_cons, List.not_mem_nil, or_false] at h
  rcases h with rfl | rfl <;> rfl
theorem mkcells_at (l : List Mk) (k : Nat) (hk : k < l.length) : (mkcells l)[2 * k]? = some (.int .u8 l[k].sg) ∧ (mkcells l)[2 * k + 1]? = some (.string ⟨l[k].tx.toArray⟩) := by
  induction l generalizing k with
  | nil => simp at hk
  | cons c l ih =>
    cases k with
    | zero => simp [mkcells, mkC]
    | succ k =>
      have h := ih k (by simpa using hk)
      have e : ∀ i, (mkcells (c :: l))[2 * (k + 1) + i]? = (mkcells l)[2 * k + i]? := by
        intro i
        have : mkcells (c :: l) = mkC c ++ mkcells l := rfl
        rw [this, List.getElem?_append_right (by simp [mkC]; omega)]
        congr 1
        simp [mkC]; omega
      simp only [List.getElem_cons_succ]
      refine ⟨by rw [← (h).1]; exact e 0, by rw [← h.2]; exact e 1⟩
/-- a slice of lines with signs -/
def HMk (w : World) (v : Value) (l : List Mk) : Prop := Holds w v l.length (mkcells l)
theorem HMk.keep {w w' : World} {v : Value} {l : List Mk} (h : HMk w v l) {N : Nat} (hk : Below N w w') (hN : w.heap.size ≤ N) : HMk w' v l := Holds.keep h fun k hk' => hk.block k (by omega)
theorem HMk.at {w : World} {ao : Option Addr} {n c : Nat} {l : List Mk} (h : HMk w (.slice ao n c) l) (h0 : 0 < l.length) : ∃ b off, ao = some ⟨b, off, none⟩ ∧ b < w.heap.size ∧
    ∀ k (hk : k < l.length), w.cell? ⟨b, off + k * 2, none⟩ = some (.int .u8 l[k].sg) ∧ w.cell? ⟨b, off + k * 2 + 1, none⟩ = some (.string ⟨l[k].tx.toArray⟩) := by
  obtain ⟨b, off, c', hv, hb, hc⟩ := Holds.at h (by rw [mkcells_length]; omega)
  cases hv
  refine ⟨b, off, rfl, hb, fun k hk => ?_⟩
  obtain ⟨h0, h1⟩ := mkcells_at l k hk
  have hlen := mkcells_length l
  have e : k * 2 = 2 * k := by omega
  rw [e]
  refine ⟨?_, ?_⟩
  · have := hc (2 * k) (by omega)
    rw [← h0, this, List.getElem?_eq_getElem]
  · have := hc (2 * k + 1) (by omega)
    rw [← h1, Nat.add_assoc, this, List.getElem?_eq_getElem]
theorem Low.mk {W w : World} (h : Low W w) {b off n c : Nat} {l : List Mk} (hl : HMk W (.slice (some ⟨b, off, none⟩) n c) l) (k : Nat) (hk : k < l.length) {x : Mk} (hx : l[k] = x) : w.cell? ⟨b, off + k * 2, none⟩ = some (.int .u8 x.sg) ∧ w.cell? ⟨b, off + k * 2 + 1, none⟩ = some (.string ⟨x.tx.toArray⟩) := by
  obtain ⟨b', off', e, _, hc⟩ := HMk.at (HMk.keep hl h (Nat.le_refl _)) (by omega)
  cases e
  rw [← hx]
  exact hc k hk
/-- a hunk as a value, in a box -/
def hkV (h : Hk) (v : Value) : Value := .agg #[.int .i64 h.A, .int .i64 h.AN, .int .i64 h.B, .int .i64 h.BN, v]
def hkC (h : Hk) (v : Value) : List Value := [.int .i64 h.A, .int .i64 h.AN, .int .i64 h.B, .int .i64 h.BN, v]
def hkO (h : Hk) (v : Value) : Obj := .cells #[.int .i64 h.A, .int .i64 h.AN, .int .i64 h.B, .int .i64 h.BN, v] 39
def Hx (u : World) (b : Nat) (h : Hk) (v : Value) : Prop := u.heap[b]? = some (hkO h v)
section
variable {u u' : World} {b : Nat} {h : Hk} {v : Value}
theorem Hx.cells (q : Hx u b h v) : u.cell? ⟨b, 0, none⟩ = some (.int .i64 h.A) ∧ u.cell? ⟨b, 1, none⟩ = some (.int .i64 h.AN) ∧ u.cell? ⟨b, 2, none⟩ = some (.int .i64 h.B) ∧ u.cell? ⟨b, 3, none⟩ = some (.int .i64 h.BN) ∧ u.cell? ⟨b, 4, none⟩ = some v := by
  unfold Hx hkO at q
  refine ⟨?_, ?_, ?_, ?_, ?_⟩ <;> rw [Lib.cell_of_heap q] <;> rfl
theorem Hx.frozen (q : Hx u b h v) (j : Nat) : u.frozen? ⟨b, j, none⟩ = false := Lib.frozen_of_heap q j
theorem Hx.lt (q : Hx u b h v) : b < u.heap.size := (Array.getElem?_eq_some_iff.1 q).1
theorem Hx.low (q : Hx u b h v) (hg : Below u.heap.size u u') : Hx u' b h v := (hg.block b q.lt).trans q
theorem Hx.keep (q : Hx u b h v) {g : Option Nat} (hg : u.grownBy u' g) (hr : some b ≠ g) : Hx u' b h v := (hg.block b q.lt hr).trans q
theorem Hx.new (w : World) (h : Hk) (v : Value) : Hx (w.alloc (hkO h v)) w.heap.size h v := _root_.Go.heap_alloc_new w _
end
/-- hunks in a row: each with the slice of its lines -/
def hkcells : List (Hk × Value) → List Value
  | [] => []
  | (h, v) :: l => hkC h v ++ hkcells l
theorem hkcells_length (l : List (Hk × Value)) : (hkcells l).length = l.length * 5 := by
  induction l with
  | nil => rfl
  | cons c l ih =>
    obtain ⟨h, v⟩ := c
    simp only [hkcells, List.length_append, List.length_cons]
    rw [ih]
    simp [hkC]; omega
theorem hkcells_append (a b : List (Hk × Value)) : hkcells (a ++ b) = hkcells a ++ hkcells b := by
  induction a with
  | nil => rfl
  | cons c l ih =>
    obtain ⟨h, v⟩ := c
    simp only [List.cons_append, hkcells, ih, List.append_assoc]
theorem hkcells_at (l : List (Hk × Value)) (k : Nat) (hk : k < l.length) : (hkcells l)[5 * k]? = some (.int .i64 l[k].1.A) ∧ (hkcells l)[5 * k + 1]? = some (.int .i64 l[k].1.AN) ∧ (hkcells l)[5 * k + 2]? = some (.int .i64 l[k].1.B) ∧ (hkcells l)[5 * k + 3]? = some (.int .i64 l[k].1.BN) ∧ (hkcells l)[5 * k + 4]? = some l[k].2 := by
  induction l generalizing k with
  | nil => simp at hk
  | cons c l ih =>
    obtain ⟨x, y⟩ := c
    cases k with
    | zero => simp [hkcells, hkC]
    | succ k =>
      have h := ih k (by simpa using hk)
      have e : ∀ i, (hkcells ((x, y) :: l))[5 * (k + 1) + i]? = (hkcells l)[5 * k + i]? := by
        intro i
        have : hkcells ((x, y) :: l) = hkC x y ++ hkcells l := rfl
        rw [this, List.getElem?_append_right (by simp [hkC]; omega)]
        congr 1
        simp [hkC]; omega
      simp only [List.getElem_cons_succ]
      refine ⟨by rw [← (h).1]; exact e 0, by rw [← h.2.1]; exact e 1, by rw [← h.2.2.1]; exact e 2, by rw [← h.2.2.2.1]; exact e 3, by rw [← h.2.2.2.2]; exact e 4⟩
/-- a slice of hunks; p: the hunks, each with the slice of its lines -/
structure HHp (w : World) (v : Value) (p : List (Hk × Value)) : Prop where
  row : Holds w v p.length (hkcells p)
  ins : ∀ x ∈ p, HMk w x.2 x.1.ls
def HHk (w : World) (v : Value) (l : List Hk) : Prop := ∃ p : List (Hk × Value), p.map (·.1) = l ∧ HHp w v p
theorem HHp.keep {w w' : World} {v : Value} {p : List (Hk × Value)} (h : HHp w v p) {N : Nat} (hk : Below N w w') (hN : w.heap.size ≤ N) : HHp w' v p :=
  ⟨Holds.keep h.row fun k hk' => hk.block k (by omega), fun x hx => HMk.keep (h.ins x hx) hk hN⟩
theorem HHk.keep {w w' : World} {v : Value} {l : List Hk} (h : HHk w v l) {N : Nat} (hk : Below N w w') (hN : w.heap.size ≤ N) : HHk w' v l := by
  obtain ⟨p, hp, h⟩ := h
  exact ⟨p, hp, h.keep hk hN⟩
theorem HHp.at {w : World} {ao : Option Addr} {n c : Nat} {l : List (Hk × Value)} (h : HHp w (.slice ao n c) l) (h0 : 0 < l.length) : ∃ b off, ao = some ⟨b, off, none⟩ ∧ b < w.heap.size ∧
    ∀ k (hk : k < l.length), w.cell? ⟨b, off + k * 5, none⟩ = some (.int .i64 l[k].1.A) ∧ w.cell? ⟨b, off + k * 5 + 1, none⟩ = some (.int .i64 l[k].1.AN) ∧ w.cell? ⟨b, off + k * 5 + 2, none⟩ = some (.int .i64 l[k].1.B) ∧ w.cell? ⟨b, off + k * 5 + 3, none⟩ = some (.int .i64 l[k].1.BN) ∧ w.cell? ⟨b, off + k * 5 + 4, none⟩ = some l[k].2 := by
  obtain ⟨b, off, c', hv, hb, hc⟩ := Holds.at h.row (by rw [hkcells_length]; omega)
  cases hv
  refine ⟨b, off, rfl, hb, fun k hk => ?_⟩
  obtain ⟨h0, h1, h2, h3, h4⟩ := hkcells_at l k hk
  have hlen := hkcells_length l
  have e : k * 5 = 5 * k := by omega
  rw [e]
  refine ⟨?_, ?_, ?_, ?_, ?_⟩
  · have := hc (5 * k) (by omega)
    rw [← h0, this, List.getElem?_eq_getElem]
  · have := hc (5 * k + 1) (by omega)
    rw [← h1, Nat.add_assoc, this, List.getElem?_eq_getElem]
  · have := hc (5 * k + 2) (by omega)
    rw [← h2, Nat.add_assoc, this, List.getElem?_eq_getElem]
  · have := hc (5 * k + 3) (by omega)
    rw [← h3, Nat.add_assoc, this, List.getElem?_eq_getElem]
  · have := hc (5 * k + 4) (by omega)
    rw [← h4, Nat.add_assoc, this, List.getElem?_eq_getElem]
theorem HMk.form {w : World} {v : Value} {l : List Mk} (h : HMk w v l) : ∃ ao c, v = .slice ao l.length c := Holds.form h
theorem hkcells_one {w : World} (l : List (Hk × Value)) (h : ∀ x ∈ l, HMk w x.2 x.1.ls) : ∀ u ∈ hkcells l, u.oneCell' = true := by
  induction l with
  | nil => simp [hkcells]
  | cons c l ih =>
    obtain ⟨x, y⟩ := c
    intro u hu
    simp only [hkcells, hkC, List.mem_append, List.mem_cons, List.not_mem_nil, or_false] at hu
    rcases hu with (rfl | rfl | rfl | rfl | rfl) | hu
    · rfl
    · rfl
    · rfl
    · rfl
    · obtain ⟨ao, c, hv⟩ := (h (x, u) (by simp)).form
      dsimp only at hv
      rw [hv]
      rfl
    · exact ih (fun x hx => h x (by simp [hx])) u hu

theorem run_append_w (w : World) (T E ty : TypeId) (z : Value) (size bytes : Nat) (hT : Tryz.prog.underlying T = some (.slice E)) (hinfo : (Tryz.prog.info? E).map (fun i => (i.zero, i.size, i.bytes)) = some (some z, size, bytes)) (hz1 : z.cells.size = size) (hsz : 0 < size) (hby : bytes ≤ 64)
    (base : Nat) (v : Value) (k : Nat) (xs : List Value) (hown : w.ownsRow base E size v k xs) (vx : Value) (m : Nat) (news : List Value) (hh : Holds w vx m news) (hl : news.length = m * size)
    (h1 : ∀ u ∈ news, u.oneCell' = true) (hk : k + m ≤ 2199023255552) (hbase : base ≤ w.heap.size) :
    ∃ v' w', (Builtin.append_ #[T, T] ty #[v, vx]).run Tryz.prog w = .ok v' w' ∧ w'.ownsRow base E size v' (k + m) (xs ++ news) ∧ w.grownBy w' v.ownBlock ∧ (v'.ownBlock = v.ownBlock ∨ v'.ownBlock = some w.heap.size) := by
  obtain ⟨i0, hi0, hz0, hzs, hz2⟩ := info_parts hinfo
  rcases hh with ⟨rfl, rfl, rfl⟩ | ⟨ad, c, rfl, _, hc⟩
  · exact ⟨v, w, run_append_owned_none (P := Tryz.prog) (w := w) base T ty E i0 size hT hi0 v k xs hown, by simpa using hown, World.grownBy.refl _ _, .inl rfl⟩
  · obtain ⟨v', w', hr, h2, h3, _, h5⟩ := run_append_own_at (P := Tryz.prog) w base T ty E i0 z size bytes hT hi0 hz0 hzs hz2 hz1 hsz v k xs hown ad m c news hl hc h1 (by unfold maxLen; omega) (by
      have : (k + m) * bytes ≤ (k + m) * 64 := Nat.mul_le_mul_left _ hby
      omega) hbase
    exact ⟨v', w', hr, h2, h3, h5⟩
theorem wpList_append_w {ops : Array Oper} {rest : List Oper} {o : Oper} {a : Act} {Q : Exit → Act → World → Prop} (w : World) (hw : Region.wanted o (yielded ops a.tmps) = true) (s x : Operand) (T E : TypeId) (z : Value) (size bytes : Nat)
    (ho : o.op = .call { callee := .builtin .append, args := #[s, x], argTypes := #[T, T] }) (hT : Tryz.prog.underlying T = some (.slice E)) (hinfo : (Tryz.prog.info? E).map (fun i => (i.zero, i.size, i.bytes)) = some (some z, size, bytes)) (hz1 : z.cells.size = size) (hsz : 0 < size) (hby : bytes ≤ 64)
    (base : Nat) (v : Value) (k : Nat) (xs : List Value) (hs : a.eval s = v) (hown : w.ownsRow base E size v k xs) (vx : Value) (m : Nat) (news : List Value) (hx : a.eval x = vx) (hh : Holds w vx m news) (hl : news.length = m * size)
    (h1 : ∀ u ∈ news, u.oneCell' = true) (hk : k + m ≤ 2199023255552) (hbase : base ≤ w.heap.size)
    (h : ∀ v' w', w'.ownsRow base E size v' (k + m) (xs ++ news) → w.grownBy w' v.ownBlock → (v'.ownBlock = v.ownBlock ∨ v'.ownBlock = some w.heap.size) → wpList Tryz.prog ops Q rest (a.put o.dst v') w') : wpList Tryz.prog ops Q (o :: rest) a w := by
  refine wpList_step fun K hK => ?_
  rw [if_pos hw]
  obtain ⟨v', w', hr, h2, h3, h4⟩ := run_append_w w T E o.type z size bytes hT hinfo hz1 hsz hby base v k xs hown vx m news hh hl h1 hk hbase
  unfold Oper.wp
  simp [execOp, ho, resolve, invoke, builtin, hs, hx, hr, Result.andThen]
  exact hK _ _ (h v' w' h2 h3 h4)
theorem hnil_row (w : World) (base : Nat) (e : TypeId) (s : Nat) : w.ownsRow base e s (.slice none 0 0) 0 [] := ⟨by simp, .inl ⟨rfl, rfl⟩⟩
end Go.Proofs.YtgckcbcdmmnkoaaGreatDoor

/- The reference's small functions of layer 11, walked: numbers, places, lines, the lines of a side. -/
set_option maxRecDepth 20000
namespace Go.Proofs.YtgckcbcdmmnkoaaGreatDoor
open Go.RowKit

set_option maxHeartbeats 1000000 in
theorem rAt_f (h : Hk) (v : Value) (w : World) (hA : -4611686018427387904 ≤ h.A) (hB : -4611686018427387904 ≤ h.B) (hA2 : h.A ≤ 9223372036854775807) (hB2 : h.B ≤ 9223372036854775807) (x y : Int) (HX : Hid (atA h = x)) (HY : Hid (atB h = y)) : Calls Tryz.prog 11 #[hkV h v] w fun e w' => e = .returned (.tuple #[.int .i64 x, .int .i64 y]) ∧ Below w.heap.size w w' := by
  obtain ⟨A, AN, B, BN, ls⟩ := h
  dsimp only at hA hB hA2 hB2
  have hx := Hx.new w ⟨A, AN, B, BN, ls⟩ v
  have hBl : Below w.heap.size w (w.alloc (hkO ⟨A, AN, B, BN, ls⟩ v)) := (Below.refl _ w).alloc (Nat.le_refl _) _
  obtain ⟨c0, c1, c2, c3, c4⟩ := hx.cells
  unfold hkO at c0 c1 c2 c3 c4 hBl
  dsimp only at c0 c1 c2 c3 c4
  unfold hkV
  dsimp only
  clear hx c4
  have hxv : x = if 0 < AN then A - 1 else A := HX.out.symm
  have hyv : y = if 0 < BN then B - 1 else B := HY.out.symm
  clear HX HY
  generalize hW : w.alloc (Obj.cells #[Value.int IntKind.i64 A, Value.int IntKind.i64 AN, Value.int IntKind.i64 B, Value.int IntKind.i64 BN, v] 39) = W at *
  go_enter Tryz.func11, Tryz.ntmps11
  go_wp2_with fail
  clear hW
  by_cases h1 : 0 < AN
  · rw [if_pos h1] at hxv
    subst hxv
    by_cases h2 : 0 < BN
    · rw [if_pos h2] at hyv
      subst hyv
      go_quiet (fail)
      go_wp2
      go_ret2
      exact ⟨by go_num, Below.dN hBl _⟩
    · rw [if_neg h2] at hyv
      subst hyv
      have e2 : decide (0 < BN) = false := decide_eq_false h2
      go_quiet (fail)
      go_wp2
      go_ret2
      exact ⟨by go_num, Below.dN hBl _⟩
  · rw [if_neg h1] at hxv
    subst hxv
    have e1 : decide (0 < AN) = false := decide_eq_false h1
    by_cases h2 : 0 < BN
    · rw [if_pos h2] at hyv
      subst hyv
      go_quiet (fail)
      go_wp2
      go_ret2
      exact ⟨by go_num, Below.dN hBl _⟩
    · rw [if_neg h2] at hyv
      subst hyv
      have e2 : decide (0 < BN) = false := decide_eq_false h2
      go_quiet (fail)
      go_wp2
      go_ret2
      exact ⟨rfl, Below.dN hBl _⟩

set_option maxHeartbeats 2000000 in
theorem rpick_f (h : Hk) (v : Value) (no : Int) (w : World) (hv : HMk w v h.ls) (hl : h.ls.length ≤ 1099511627776) (R : List (List UInt8)) (HR : Hid (pkL no h.ls = R)) : Calls Tryz.prog 37 #[hkV h v, .int .u8 no] w fun e w' => ∃ v', e = .returned v' ∧ HS w' v' R ∧ Below w.heap.size w w' := by
  obtain ⟨A, AN, B, BN, ls⟩ := h
  dsimp only at hv hl HR
  obtain ⟨lo, lc, rfl⟩ := HMk.form hv
  have hx := Hx.new w ⟨A, AN, B, BN, ls⟩ (.slice lo ls.length lc)
  have hBl : Below w.heap.size w (w.alloc (hkO ⟨A, AN, B, BN, ls⟩ (.slice lo ls.length lc))) := (Below.refl _ w).alloc (Nat.le_refl _) _
  have hv1 := HMk.keep hv hBl (Nat.le_refl _)
  have hsz : (w.alloc (hkO ⟨A, AN, B, BN, ls⟩ (.slice lo ls.length lc))).heap.size = w.heap.size + 1 := by simp
  unfold hkV
  dsimp only
  go_enter Tryz.func37, Tryz.ntmps37
  go_wp2
  have hW : w.alloc (hkO ⟨A, AN, B, BN, ls⟩ (.slice lo ls.length lc)) = w.alloc (Obj.cells #[Value.int IntKind.i64 A, Value.int IntKind.i64 AN, Value.int IntKind.i64 B, Value.int IntKind.i64 BN, .slice lo ls.length lc] 39) := rfl
  rw [← hW]
  clear hW hv
  have HSZ : Hid ((w.alloc (hkO ⟨A, AN, B, BN, ls⟩ (.slice lo ls.length lc))).heap.size = w.heap.size + 1) := hsz
  clear hsz
  generalize w.alloc (hkO ⟨A, AN, B, BN, ls⟩ (.slice lo ls.length lc)) = W at *
  go_loopw [5, 6] (fun ov iv wr => ∃ (k : Nat) (out : List (List UInt8)), k ≤ ls.length ∧ out.length ≤ k ∧ iv = .int .i64 (k : Int) ∧ (∃ oo oc, ov = .slice oo out.length oc) ∧ St W 9 1 ov out.length (scells out) wr ∧ Hid (out ++ pkL no (ls.drop k) = R)) (fun _ iv _ => ls.length - (intOf iv).toNat)
  case atStart => exact ⟨0, [], Nat.zero_le _, Nat.le_refl _, by go_num, ⟨_, _, rfl⟩, ⟨hnil_row _ _ _ _, Below.refl _ _⟩, HR⟩
  case round =>
    obtain ⟨k, out, hk, hok, rfl, ⟨oo, oc, rfl⟩, hS, HI⟩ := hrel
    obtain ⟨_, _, _, _, d4⟩ := (hx.low hS.low).cells
    by_cases hlt : k < ls.length
    · obtain ⟨b, off, rfl, hb, _⟩ := HMk.at hv1 (by omega)
      obtain ⟨m, hm⟩ : ∃ m, ls[k] = m := ⟨_, rfl⟩
      obtain ⟨c0, c1⟩ := Low.mk hS.low hv1 k hlt hm
      have HI2 : Hid (out ++ (if m.sg ≠ no ∧ okS m.sg = true then m.tx :: pkL no (ls.drop (k + 1)) else pkL no (ls.drop (k + 1))) = R) := (by
        show _ = _
        rw [← HI.out, List.drop_eq_getElem_cons hlt, hm]
        rfl)
      obtain ⟨sg, tx⟩ := m
      dsimp only at c0 c1 HI2
      clear HI hm HR
      have i1 : 0 ≤ (k : Int) := by omega
      have i2 : (k : Int) < (ls.length : Int) := by omega
      have hsS := hS.low.size
      by_cases h0 : sg = no
      · subst h0
        have HI3 : Hid (out ++ pkL sg (ls.drop (k + 1)) = R) := (by
          have h := HI2.out
          rw [if_neg (by exact fun h => h.1 rfl)] at h
          exact h)
        clear HI2
        go_wp2
        exact ⟨⟨k + 1, out, by omega, by omega, by go_num, ⟨_, _, rfl⟩, hS, HI3⟩, by simp [intOf]; omega⟩
      · have e0 : (sg == no) = false := by simpa using h0
        by_cases h1 : sg = 32
        · subst h1
          have HI3 : Hid (out ++ [tx] ++ pkL no (ls.drop (k + 1)) = R) := (by
            have h := HI2.out
            rw [if_pos ⟨h0, by decide⟩] at h
            show _ = _
            rw [← h]
            simp)
          clear HI2
          go_wp2_with (at_builtin; refine wpList_append_h _ (by kernel_rfl) (.tmp 36) (.tmp 43) 22 9 (.string ⟨#[]⟩) 1 16 rfl Tryz.underlying22 infoStr rfl (by decide) (by decide) W.heap.size _ _ _ rfl (hS.own.alloc _) _ 1 (scells [tx]) rfl (new_holds _ _ _ _ _ (by decide)) rfl (scells_one _) (by omega) (by simp; omega) ?_)
          intro v2 w2 hown2 hgrow2
          have hB2 : Below W.heap.size W w2 := (hS.low.alloc hS.low.size _).grown hgrow2 (by simp; omega) (fun _ hj => owns_ge hS.own hj)
          rw [← scells_append] at hown2
          obtain ⟨oo2, oc2, rfl⟩ := (holds_of hown2).form
          clear hgrow2
          go_wp2
          exact ⟨⟨k + 1, out ++ [tx], by omega, by simp; omega, by go_num, ⟨_, _, by rw [List.length_append]; rfl⟩, ⟨by rw [List.length_append]; exact hown2, hB2⟩, HI3⟩, by simp [intOf]; omega⟩
        · have e1 : (sg == 32) = false := by simpa using h1
          by_cases h2 : sg = 45
          · subst h2
            have HI3 : Hid (out ++ [tx] ++ pkL no (ls.drop (k + 1)) = R) := (by
              have h := HI2.out
              rw [if_pos ⟨h0, by decide⟩] at h
              show _ = _
              rw [← h]
              simp)
            clear HI2
            go_wp2_with (at_builtin; refine wpList_append_h _ (by kernel_rfl) (.tmp 36) (.tmp 43) 22 9 (.string ⟨#[]⟩) 1 16 rfl Tryz.underlying22 infoStr rfl (by decide) (by decide) W.heap.size _ _ _ rfl (hS.own.alloc _) _ 1 (scells [tx]) rfl (new_holds _ _ _ _ _ (by decide)) rfl (scells_one _) (by omega) (by simp; omega) ?_)
            intro v2 w2 hown2 hgrow2
            have hB2 : Below W.heap.size W w2 := (hS.low.alloc hS.low.size _).grown hgrow2 (by simp; omega) (fun _ hj => owns_ge hS.own hj)
            rw [← scells_append] at hown2
            obtain ⟨oo2, oc2, rfl⟩ := (holds_of hown2).form
            clear hgrow2
            go_wp2
            exact ⟨⟨k + 1, out ++ [tx], by omega, by simp; omega, by go_num, ⟨_, _, by rw [List.length_append]; rfl⟩, ⟨by rw [List.length_append]; exact hown2, hB2⟩, HI3⟩, by simp [intOf]; omega⟩
          · have e2 : (sg == 45) = false := by simpa using h2
            by_cases h3 : sg = 43
            · subst h3
              have HI3 : Hid (out ++ [tx] ++ pkL no (ls.drop (k + 1)) = R) := (by
                have h := HI2.out
                rw [if_pos ⟨h0, by decide⟩] at h
                show _ = _
                rw [← h]
                simp)
              clear HI2
              go_wp2_with (at_builtin; refine wpList_append_h _ (by kernel_rfl) (.tmp 36) (.tmp 43) 22 9 (.string ⟨#[]⟩) 1 16 rfl Tryz.underlying22 infoStr rfl (by decide) (by decide) W.heap.size _ _ _ rfl (hS.own.alloc _) _ 1 (scells [tx]) rfl (new_holds _ _ _ _ _ (by decide)) rfl (scells_one _) (by omega) (by simp; omega) ?_)
              intro v2 w2 hown2 hgrow2
              have hB2 : Below W.heap.size W w2 := (hS.low.alloc hS.low.size _).grown hgrow2 (by simp; omega) (fun _ hj => owns_ge hS.own hj)
              rw [← scells_append] at hown2
              obtain ⟨oo2, oc2, rfl⟩ := (holds_of hown2).form
              clear hgrow2
              go_wp2
              exact ⟨⟨k + 1, out ++ [tx], by omega, by simp; omega, by go_num, ⟨_, _, by rw [List.length_append]; rfl⟩, ⟨by rw [List.length_append]; exact hown2, hB2⟩, HI3⟩, by simp [intOf]; omega⟩
            · have e3 : (sg == 43) = false := by simpa using h3
              have HI3 : Hid (out ++ pkL no (ls.drop (k + 1)) = R) := (by
                have h := HI2.out
                rw [if_neg (by simp [okS, h1, h2, h3])] at h
                exact h)
              clear HI2
              go_wp2
              exact ⟨⟨k + 1, out, by omega, by omega, by go_num, ⟨_, _, rfl⟩, hS, HI3⟩, by simp [intOf]; omega⟩
    · have HI3 : Hid (out = R) := (by
        have h := HI.out
        rw [List.drop_of_length_le (by omega)] at h
        show out = R
        simpa [pkL] using h)
      clear HI
      have hend : decide ((k : Int) < (ls.length : Int)) = false := decide_eq_false (by omega)
      go_wp2
      go_ret
      refine ⟨_, rfl, ?_, hBl.trans (hS.low.mono (by have := HSZ.out; omega))⟩
      rw [← HI3.out]
      exact holds_of hS.own
theorem rOld_f (h : Hk) (v : Value) (w : World) (hv : HMk w v h.ls) (hl : h.ls.length ≤ 1099511627776) (R : List (List UInt8)) (HR : Hid (oldL h = R)) : Calls Tryz.prog 23 #[hkV h v] w fun e w' => ∃ v', e = .returned v' ∧ HS w' v' R ∧ Below w.heap.size w w' := by
  have hBl : Below w.heap.size w (w.alloc (hkO h v)) := (Below.refl _ w).alloc (Nat.le_refl _) _
  have hv1 := HMk.keep hv hBl (Nat.le_refl _)
  obtain ⟨c0, c1, c2, c3, c4⟩ := (Hx.new w h v).cells
  unfold hkO at c0 c1 c2 c3 c4 hBl hv1
  obtain ⟨lo, lc, rfl⟩ := HMk.form hv
  have e : hkV h (.slice lo h.ls.length lc) = .agg #[.int .i64 h.A, .int .i64 h.AN, .int .i64 h.B, .int .i64 h.BN, .slice lo h.ls.length lc] := rfl
  rw [e]
  go_enter Tryz.func23, Tryz.ntmps23
  go_wp2_with fail
  refine (rpick_f h _ 43 _ hv1 hl R HR).mono ?_
  rintro e w1 ⟨v1, rfl, hv1, hB1⟩
  obtain ⟨vo, vc, rfl⟩ := Holds.form hv1
  go_wp2
  go_ret
  exact ⟨_, rfl, hv1, hBl.trans (hB1.mono hBl.size)⟩
/-- a line's bytes, one by one -/
theorem lin_at {s : List UInt8} (hs : s ≠ []) : linB s = true ↔ ∀ (j : Nat) (hj : j + 1 < s.length), s[j] ≠ 10 := by
  unfold linB
  have e1 : s.isEmpty = false := by cases s with | nil => exact absurd rfl hs | cons => rfl
  rw [e1]
  simp only [Bool.not_false, Bool.true_and, List.all_eq_true]
  constructor
  · intro h j hj
    have := h s[j] (by
      rw [List.mem_iff_getElem]
      exact ⟨j, by simp; omega, by simp⟩)
    simpa using this
  · intro h c hc
    rw [List.mem_iff_getElem] at hc
    obtain ⟨j, hj, rfl⟩ := hc
    simp at hj
    have := h j (by omega)
    simpa using this
end Go.Proofs.YtgckcbcdmmnkoaaGreatDoor

/- The reference's line, last of layer 11, walked. -/
set_option maxRecDepth 20000
namespace Go.Proofs.YtgckcbcdmmnkoaaGreatDoor
open Go.RowKit

theorem bat (l : List UInt8) (k : Nat) (h : k < (⟨l.toArray⟩ : ByteArray).size) : (⟨l.toArray⟩ : ByteArray)[k]'h = l[k]'(h) := rfl
attribute [local go_sem] bat ByteArray.extract_mk
theorem is_feed {x : UInt8} (h : x = 10) : ((x.toNat : Int) == 10) = true := by subst h; rfl
theorem no_feed {x : UInt8} (h : x ≠ 10) : ((x.toNat : Int) == 10) = false := by
  have : x.toNat ≠ 10 := fun e => h (UInt8.toNat_inj.1 e)
  rw [beq_eq_false_iff_ne]; omega
theorem idx_s (L : List UInt8) (i : Int) (k : Nat) (hk : k < L.length) (hi : i = k) (w : World) :
    (Instr.index 9 (.string ⟨L.toArray⟩) (.int .i64 i)).run Tryz.prog w = .ok (.int .u8 (L[k].toNat : Int)) w := by
  subst hi
  rw [run_index_string w 9 ⟨L.toArray⟩ .i64 (k : Int) Tryz.underlying9]
  have hs : (⟨L.toArray⟩ : ByteArray).size = L.length := rfl
  rw [dif_pos ⟨by omega, by rw [hs]; omega⟩]
  rfl
theorem wrap_s {n : Int} (h0 : -9223372036854775808 ≤ n) (h1 : n ≤ 9223372036854775807) : IntKind.i64.wrap n = n := by
  simp [IntKind.wrap, IntKind.bits, IntKind.signed]
  split <;> omega
theorem fd_last {s : List UInt8} (h : 0 < s.length) : fdB s = (s[s.length - 1] == 10) := by
  unfold fdB
  rw [List.getLast?_eq_getElem?, List.getElem?_eq_getElem (by omega)]
  rfl

end Go.Proofs.YtgckcbcdmmnkoaaGreatDoor

/- The reference's fields of layer 11, walked. -/
set_option maxRecDepth 20000
namespace Go.Proofs.YtgckcbcdmmnkoaaGreatDoor
open Go.RowKit

/-- a line in a box -/
def mkO (m : Mk) : Obj := .cells #[.int .u8 m.sg, .string ⟨m.tx.toArray⟩] 52
def Mx (u : World) (b : Nat) (m : Mk) : Prop := u.heap[b]? = some (mkO m)
section
variable {u u' : World} {b : Nat} {m : Mk}
theorem Mx.cells (q : Mx u b m) : u.cell? ⟨b, 0, none⟩ = some (.int .u8 m.sg) ∧ u.cell? ⟨b, 1, none⟩ = some (.string ⟨m.tx.toArray⟩) := by
  unfold Mx mkO at q
  refine ⟨?_, ?_⟩ <;> rw [Lib.cell_of_heap q] <;> rfl
theorem Mx.lt (q : Mx u b m) : b < u.heap.size := (Array.getElem?_eq_some_iff.1 q).1
theorem Mx.low (q : Mx u b m) (hg : Below u.heap.size u u') : Mx u' b m := (hg.block b q.lt).trans q
theorem Mx.new (w : World) (m : Mk) : Mx (w.alloc (mkO m)) w.heap.size m := _root_.Go.heap_alloc_new w _
end
theorem Hx.row {W : World} {b : Nat} {h : Hk} {v : Value} (q : Hx W b h v) (n : Nat) : Hx (W.drewN n) b h v := q

end Go.Proofs.YtgckcbcdmmnkoaaGreatDoor

/- Steps of a region that draws its order, taken one by one where a guard says no: reads, calls by their contracts. -/
set_option maxRecDepth 20000
namespace Go.Proofs.YtgckcbcdmmnkoaaGreatDoor
open Go.RowKit

theorem step_want {b : Bool} {X Y : Prop} (h : b = true) (hX : X) : if b = true then X else Y := by
  rw [if_pos h]
  exact hX
theorem step_none {b : Bool} {X Y : Prop} (h : b = false) (hY : Y) : if b = true then X else Y := by
  rw [if_neg (by rw [h]; exact Bool.false_ne_true)]
  exact hY
/-- an operation that reads alone, or is not wanted, from one stage of the region to the next -/
theorem go_take {P : Program} {S : World → Prop} {md : Region.Mode} {ops : Array Oper} {Q : Exit → Act → World → Prop} {fuel : Nat} {listed : Array Bool} {A : Act} {w : World}
    (i d : Nat) (op : Oper) (v : Value) (hi : ops[i]? = some op) (hd : op.dst = some d) (hs : Region.noSelect ops = true) (hf : Region.free md ops listed i = true) (hr : (Region.ready md ops listed).contains i = true)
    (hQ : ∀ c a w, Q (.panic c) (a.put op.dst v) w → Q (.panic c) a w) (hy : YieldsIf P ops S op v A) (hS : S w)
    (h : wpAnyH P md ops Q S fuel (listed.setIfInBounds i true) (A.put (some d) v) w) : wpAnyH P md ops Q S (fuel + 1) listed A w :=
  wpAnyH_take hi hs hf hr hQ hy hS (by rw [hd]; exact h)
/-- an operation that is not wanted, where nothing else may come up -/
theorem go_none {P : Program} {S : World → Prop} {md : Region.Mode} {ops : Array Oper} {Q : Exit → Act → World → Prop} {fuel : Nat} {listed : Array Bool} {A : Act} {w : World}
    (i d : Nat) (op : Oper) (hi : ops[i]? = some op) (hd : op.dst = some d) (hr : Region.ready md ops listed = [i]) (hwt : Region.wanted op (yielded ops A.tmps) = false) (hS : S w)
    (h : wpAnyH P md ops Q S fuel (listed.setIfInBounds i true) (A.put (some d) undef) w) :
    wpAnyH P md ops Q S (fuel + 1) listed A w := by
  refine wpAnyH_ready hr (by simp) (AllReadyH.cons hi (fun K hK => ?_) AllReadyH.nil)
  refine step_none hwt ?_
  exact hK.out _ _ hS (fun _ => by rw [hd]; exact h)
/-- a call by its contract, where nothing else may come up -/
theorem go_callH {P : Program} {S : World → Prop} {md : Region.Mode} {ops : Array Oper} {Q : Exit → Act → World → Prop} {fuel : Nat} {listed : Array Bool} {A : Act} {w : World}
    (i d : Nat) (op : Oper) (hi : ops[i]? = some op) (hd : op.dst = some d) (hr : Region.ready md ops listed = [i]) (hwt : Region.wanted op (yielded ops A.tmps) = true)
    (F : Nat) (xs : Array Operand) (ts : Array TypeId) (ho : op.op = .call { callee := .value (.func F), args := xs, argTypes := ts })
    (args : Array Value) (hx : xs.map A.eval = args) (hen : ∀ args w, (callFunc F args).run P w = .ok (.enter F args) w) (v : Value)
    (hc : Calls P F args w fun e w' => e = .returned v ∧ S w')
    (h : ∀ w', S w' → wpAnyH P md ops Q S fuel (listed.setIfInBounds i true) (A.put (some d) v) w') :
    wpAnyH P md ops Q S (fuel + 1) listed A w := by
  refine wpAnyH_ready hr (by simp) (AllReadyH.cons hi (fun K hK => ?_) AllReadyH.nil)
  refine step_want hwt ?_
  unfold Oper.wp
  have e : (execOp A.eval op).run P w = .ok (.enter F args) w := by
    have h1 := hen args w
    simp only [execOp, ho, resolve, invoke]
    have h2 : A.eval (.func F) = .func (.func F) #[] #[] := rfl
    simp only [h2, Deferred.ofValue, Sem.run_bind, Sem.run_pure, Result.andThen_ok, hx, Array.append_empty, Array.empty_append]
    exact h1
  rw [e, Oper.upon_enter]
  refine hc.mono ?_
  rintro e w' ⟨rfl, hb⟩
  exact hK.out _ _ hb (fun hu => by rw [hd]; exact h w' hu)
/-- a call of whatever function value by its contract, where nothing else may come up; R: what is told of what is answered -/
theorem go_callE {P : Program} {S : World → Prop} {md : Region.Mode} {ops : Array Oper} {Q : Exit → Act → World → Prop} {fuel : Nat} {listed : Array Bool} {A : Act} {w : World}
    (i d : Nat) (op : Oper) (hi : ops[i]? = some op) (hd : op.dst = some d) (hr : Region.ready md ops listed = [i]) (hwt : Region.wanted op (yielded ops A.tmps) = true)
    (F : Nat) (x : Operand) (xs : Array Operand) (ts : Array TypeId) (ho : op.op = .call { callee := .value x, args := xs, argTypes := ts })
    (cap : Array Value) (hxv : A.eval x = .func (.func F) #[] cap) (args : Array Value) (hx : xs.map A.eval = args) (hen : ∀ args w, (callFunc F args).run P w = .ok (.enter F args) w) (R : Value → World → Prop)
    (hc : Calls P F (args ++ cap) w fun e w' => ∃ v, e = .returned v ∧ S w' ∧ R v w')
    (h : ∀ v w', S w' → R v w' → wpAnyH P md ops Q S fuel (listed.setIfInBounds i true) (A.put (some d) v) w') :
    wpAnyH P md ops Q S (fuel + 1) listed A w := by
  refine wpAnyH_ready hr (by simp) (AllReadyH.cons hi (fun K hK => ?_) AllReadyH.nil)
  refine step_want hwt ?_
  unfold Oper.wp
  have e : (execOp A.eval op).run P w = .ok (.enter F (args ++ cap)) w := by
    have h1 := hen (args ++ cap) w
    simp only [execOp, ho, resolve, invoke]
    simp only [hxv, Deferred.ofValue, Sem.run_bind, Sem.run_pure, Result.andThen_ok, hx, Array.empty_append]
    exact h1
  rw [e, Oper.upon_enter]
  refine hc.mono ?_
  rintro e w' ⟨v, rfl, hb, hR⟩
  exact hK.out _ _ hb (fun hu => by rw [hd]; exact h v w' hu hR)
/-- an operation that yields a value, whatever it does to memory, where nothing else may come up -/
theorem go_val {P : Program} {S : World → Prop} {md : Region.Mode} {ops : Array Oper} {Q : Exit → Act → World → Prop} {fuel : Nat} {listed : Array Bool} {A : Act} {w : World}
    (i d : Nat) (op : Oper) (hi : ops[i]? = some op) (hd : op.dst = some d) (hr : Region.ready md ops listed = [i]) (hwt : Region.wanted op (yielded ops A.tmps) = true)
    (v : Value) (w' : World) (he : (execOp A.eval op).run P w = .ok (.value v) w') (hS : S w')
    (h : wpAnyH P md ops Q S fuel (listed.setIfInBounds i true) (A.put (some d) v) w') :
    wpAnyH P md ops Q S (fuel + 1) listed A w := by
  refine wpAnyH_ready hr (by simp) (AllReadyH.cons hi (fun K hK => ?_) AllReadyH.nil)
  refine step_want hwt ?_
  unfold Oper.wp
  rw [he, Oper.upon_value]
  exact hK.out _ _ hS (fun _ => by rw [hd]; exact h)
/-- a store, where nothing else may come up -/
theorem go_skip {P : Program} {S : World → Prop} {md : Region.Mode} {ops : Array Oper} {Q : Exit → Act → World → Prop} {fuel : Nat} {listed : Array Bool} {A : Act} {w : World}
    (i : Nat) (op : Oper) (hi : ops[i]? = some op) (hd : op.dst = none) (hr : Region.ready md ops listed = [i]) (hwt : Region.wanted op (yielded ops A.tmps) = true)
    (w' : World) (he : (execOp A.eval op).run P w = .ok .skip w') (hS : S w')
    (h : wpAnyH P md ops Q S fuel (listed.setIfInBounds i true) A w') :
    wpAnyH P md ops Q S (fuel + 1) listed A w := by
  refine wpAnyH_ready hr (by simp) (AllReadyH.cons hi (fun K hK => ?_) AllReadyH.nil)
  refine step_want hwt ?_
  unfold Oper.wp
  rw [he, Oper.upon_skip]
  exact hK.out _ _ hS (fun _ => by rw [hd]; exact h)
/-- a number, a slice, a function value is read -/
theorem load_int {u : World} {a : Addr} {z : Int} (h : u.cell? a = some (.int .i64 z)) {op : Oper} (x : Operand) (ho : op.op = .load 3 x) {ev : Operand → Value} (hx : ev x = .pointer (some a)) :
    (execOp ev op).run Tryz.prog u = .ok (.value (.int .i64 z)) u := by
  simp only [execOp, ho, hx]
  go_simp
end Go.Proofs.YtgckcbcdmmnkoaaGreatDoor

/- The reference's Check of layer 11, walked. -/
set_option maxRecDepth 20000
namespace Go.Proofs.YtgckcbcdmmnkoaaGreatDoor
open Go.RowKit

/-- a hunk is read out of its box -/
theorem load_hk {u : World} {b : Nat} {h : Hk} {v : Value} (q : Hx u b h v) {op : Oper} (x : Operand) (ho : op.op = .load 39 x) {ev : Operand → Value} (hx : ev x = .pointer (some ⟨b, 0, none⟩)) :
    (execOp ev op).run Tryz.prog u = .ok (.value (hkV h v)) u := by
  have hL : (loadVar 39 ⟨b, 0, none⟩).run Tryz.prog u = .ok (hkV h v) u := run_loadVar_row u b _ _ _ _ _ q Tryz.underlying39 rfl (by kernel_rfl)
  simp only [execOp, ho, hx, Instr.loadAt, Instr.sureAddr, Sem.run_bind, Sem.run_pure, Result.andThen_ok, hL]
/-- Old and New within a region that draws -/
theorem old_held {h : Hk} {v : Value} {W u : World} (hv : HMk W v h.ls) (hl : h.ls.length ≤ 1099511627776) {R : List (List UInt8)} (HR : Hid (oldL h = R)) (hL : Low W u) : Calls Tryz.prog 23 (#[hkV h v] ++ #[]) u fun e w' => ∃ x, e = .returned x ∧ Low W w' ∧ ∃ o c, x = .slice o R.length c := by
  refine (rOld_f h v u (HMk.keep hv hL (Nat.le_refl _)) hl R HR).mono ?_
  rintro e w' ⟨x, rfl, hx, hB⟩
  obtain ⟨o, c, rfl⟩ := Holds.form hx
  refine ⟨_, rfl, hL.trans (hB.mono hL.size), o, c, ?_⟩
  rfl
end Go.Proofs.YtgckcbcdmmnkoaaGreatDoor

/- The reference's Order of layer 11, walked. -/
set_option maxRecDepth 20000
namespace Go.Proofs.YtgckcbcdmmnkoaaGreatDoor
open Go.RowKit

/-- hunks of lengths that can be gone through -/
def HOk (p : List (Hk × Value)) : Prop := p.length ≤ 1099511627776 ∧ ∀ x ∈ p, x.1.ls.length ≤ 1099511627776 ∧ ∀ m ∈ x.1.ls, m.tx.length ≤ 1099511627776
/-- a hunk of a row, read -/
theorem HHp.take {w W : World} {b off n c : Nat} {p : List (Hk × Value)} (h : HHp w (.slice (some ⟨b, off, none⟩) n c) p) (hB : Below w.heap.size w W) (k : Nat) (hk : k < p.length) {x : Hk} {y : Value} (hx : p[k] = (x, y)) : (W.cell? ⟨b, off + k * 5, none⟩ = some (.int .i64 x.A) ∧ W.cell? ⟨b, off + k * 5 + 1, none⟩ = some (.int .i64 x.AN) ∧ W.cell? ⟨b, off + k * 5 + 2, none⟩ = some (.int .i64 x.B) ∧ W.cell? ⟨b, off + k * 5 + 3, none⟩ = some (.int .i64 x.BN) ∧ W.cell? ⟨b, off + k * 5 + 4, none⟩ = some y) ∧ HMk W y x.ls := by
  have h2 := h.keep hB (Nat.le_refl _)
  obtain ⟨b', off', e, _, hc⟩ := h2.at (by omega)
  cases e
  have := hc k hk
  rw [hx] at this
  refine ⟨this, ?_⟩
  have hi := h2.ins p[k] (List.getElem_mem hk)
  rw [hx] at hi
  exact hi
theorem errs_drop {l : List Hk} {k : Nat} (hk : k < l.length) : errs (l.drop k) = if chkH l[k] ≠ 0 then chkH l[k] else errs (l.drop (k + 1)) := by
  rw [List.drop_eq_getElem_cons hk]
  rfl
theorem ord_ok {l : List Hk} (h : errs l = 0) : ordH l = if ordB 0 0 l = true then 0 else 121 := by
  unfold ordH
  rw [h]
  simp
theorem ord_err {l : List Hk} {z : Int} (h : errs l = z) (hz : z ≠ 0) : ordH l = z := by
  unfold ordH
  rw [h, if_pos hz]
theorem errs_ok {l : List Hk} (h : errs l = 0) : ∀ x ∈ l, chkH x = 0 := by
  induction l with
  | nil => intro x hx; cases hx
  | cons y l ih =>
    simp only [errs] at h
    by_cases hy : chkH y ≠ 0
    · rw [if_pos hy] at h
      exact absurd h hy
    · rw [if_neg hy] at h
      intro x hx
      rcases List.mem_cons.1 hx with rfl | hx
      · simpa using hy
      · exact ih h x hx
/-- the numbers of a right hunk -/
theorem chk_num {h : Hk} (hc : chkH h = 0) : (0 ≤ h.A ∧ h.A ≤ 2147483647) ∧ (0 ≤ h.AN ∧ h.AN ≤ 2147483647) ∧ (0 ≤ h.B ∧ h.B ≤ 2147483647) ∧ (0 ≤ h.BN ∧ h.BN ≤ 2147483647) := by
  have hr : rngB h = true := by
    cases hq : rngB h with
    | true => rfl
    | false => simp [chkH, hq] at hc
  simp only [rngB, Bool.and_eq_true, nat31, decide_eq_true_eq] at hr
  omega
theorem at_num {h : Hk} (hc : chkH h = 0) : (-1 ≤ atA h ∧ atA h ≤ 2147483647) ∧ (-1 ≤ atB h ∧ atB h ≤ 2147483647) := by
  have := chk_num hc
  unfold atA atB
  split <;> split <;> omega

end Go.Proofs.YtgckcbcdmmnkoaaGreatDoor
