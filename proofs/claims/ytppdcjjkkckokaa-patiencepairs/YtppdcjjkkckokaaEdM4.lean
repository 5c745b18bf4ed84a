/-
  Two scripts one behind the other: the pairs of both; associative, and one that keeps all adds nothing.
-/
import Derived.Test.YtppdcjjkkckokaaEdM3
namespace Go.Proofs.Ytppdcjjkkckokaa

/-- what two scripts keep, run by run -/
def bothR : List Rn → List Rn → List Rn
  | [], _ => []
  | _ :: _, [] => []
  | p :: x, q :: y =>
    (if max p.b q.a < min (p.b + p.n) (q.a + q.n) then [⟨p.a + (max p.b q.a - p.b), q.b + (max p.b q.a - q.a), min (p.b + p.n) (q.a + q.n) - max p.b q.a⟩] else []) ++
      if min (p.b + p.n) (q.a + q.n) = p.b + p.n then bothR x (q :: y) else bothR (p :: x) y
termination_by x y => x.length + y.length

theorem up_cmp {l : List Rn} (h : Up l) : ∀ r ∈ l, ∀ s ∈ l, r = s ∨ (r.a < s.a ∧ r.b < s.b) ∨ (s.a < r.a ∧ s.b < r.b) := by
  induction l with
  | nil => simp
  | cons x t ih =>
    unfold Up at h
    rw [List.pairwise_cons] at h
    intro r hr s hs
    rw [List.mem_cons] at hr hs
    rcases hr with rfl | hr
    · rcases hs with rfl | hs
      · exact .inl rfl
      · exact .inr (.inl (h.1 s hs))
    · rcases hs with rfl | hs
      · exact .inr (.inr (h.1 r hr))
      · exact ih h.2 r hr s hs
theorem exs_append (x y : List Rn) : exs (x ++ y) = exs x ++ exs y := by simp [exs]
theorem exs_one (r : Rn) : exs [r] = ex r := by simp [exs]

theorem both_head (p q : Rn) (hp : 0 ≤ p.n) (hq : 0 ≤ q.n) (i j : Int) : (⟨i, j, 1⟩ : Rn) ∈ exs (if max p.b q.a < min (p.b + p.n) (q.a + q.n) then [⟨p.a + (max p.b q.a - p.b), q.b + (max p.b q.a - q.a), min (p.b + p.n) (q.a + q.n) - max p.b q.a⟩] else []) ↔ ∃ t, (⟨i, t, 1⟩ : Rn) ∈ ex p ∧ (⟨t, j, 1⟩ : Rn) ∈ ex q := by
  obtain ⟨F, hF, f1, f2, f3⟩ : ∃ F, max p.b q.a = F ∧ p.b ≤ F ∧ q.a ≤ F ∧ (F = p.b ∨ F = q.a) := ⟨_, rfl, by omega, by omega, by omega⟩
  obtain ⟨T, hT, t1, t2, t3⟩ : ∃ T, min (p.b + p.n) (q.a + q.n) = T ∧ T ≤ p.b + p.n ∧ T ≤ q.a + q.n ∧ (T = p.b + p.n ∨ T = q.a + q.n) := ⟨_, rfl, by omega, by omega, by omega⟩
  rw [hF, hT]
  clear hF hT
  simp only [mem_ex]
  obtain ⟨k, hk⟩ : ∃ k : Nat, p.n.toNat = k := ⟨_, rfl⟩
  obtain ⟨o, ho⟩ : ∃ o : Nat, q.n.toNat = o := ⟨_, rfl⟩
  have hk' : p.n = k := by omega
  have ho' : q.n = o := by omega
  rw [hk, ho]
  rw [hk'] at t1 t3
  rw [ho'] at t2 t3
  split
  · rw [exs_one, mem_ex]
    dsimp only
    obtain ⟨u, hu⟩ : ∃ u : Nat, (T - F).toNat = u := ⟨_, rfl⟩
    have hu' : T - F = u := by omega
    rw [hu]
    constructor
    · rintro ⟨_, h1, h2, h3⟩
      exact ⟨i - p.a + p.b, ⟨trivial, by omega, by omega, by omega⟩, trivial, by omega, by omega, by omega⟩
    · rintro ⟨t, ⟨_, h1, h2, h3⟩, _, h4, h5, h6⟩
      exact ⟨rfl, by omega, by omega, by omega⟩
  · constructor
    · intro h; simp [exs] at h
    · rintro ⟨t, ⟨_, h1, h2, h3⟩, _, h4, h5, h6⟩
      omega

theorem both_spec (X Y : List Rn) (a b c d : Int) (hX : Chain a b X) (hY : Chain c d Y) :
    (∀ i j, (⟨i, j, 1⟩ : Rn) ∈ exs (bothR X Y) ↔ ∃ t, (⟨i, t, 1⟩ : Rn) ∈ exs X ∧ (⟨t, j, 1⟩ : Rn) ∈ exs Y) ∧ (∀ r ∈ bothR X Y, 0 < r.n) ∧ Up (exs (bothR X Y)) := by
  induction X, Y using bothR.induct generalizing a b c d with
  | case1 Y => rw [bothR]; exact ⟨by simp [exs], by simp, List.Pairwise.nil⟩
  | case2 p x => rw [bothR]; exact ⟨by simp [exs], by simp, List.Pairwise.nil⟩
  | case3 p x q y ih1 ih2 =>
    by_cases hto : min (p.b + p.n) (q.a + q.n) = p.b + p.n
    · have ih := ih1
      obtain ⟨x1, x2, x3, x4⟩ := hX
      have hY0 := hY
      obtain ⟨y1, y2, y3, y4⟩ := hY
      obtain ⟨i1, i2, i3⟩ := ih _ _ _ _ x4 hY0
      rw [bothR, if_pos hto]
      have hhead : ∀ i j, (⟨i, j, 1⟩ : Rn) ∈ exs (if max p.b q.a < min (p.b + p.n) (q.a + q.n) then [⟨p.a + (max p.b q.a - p.b), q.b + (max p.b q.a - q.a), min (p.b + p.n) (q.a + q.n) - max p.b q.a⟩] else []) ↔ ∃ t, (⟨i, t, 1⟩ : Rn) ∈ ex p ∧ (⟨t, j, 1⟩ : Rn) ∈ ex q := both_head p q x3 y3
      refine ⟨fun i j => ?_, fun r hr => ?_, ?_⟩
      · rw [exs_append, List.mem_append, hhead, i1]
        constructor
        · rintro (⟨t, h1, h2⟩ | ⟨t, h1, h2⟩)
          · exact ⟨t, by rw [exs_cons]; exact List.mem_append_left _ h1, by rw [exs_cons]; exact List.mem_append_left _ h2⟩
          · exact ⟨t, by rw [exs_cons]; exact List.mem_append_right _ h1, h2⟩
        · rintro ⟨t, h1, h2⟩
          rw [exs_cons, List.mem_append] at h1
          rcases h1 with h1 | h1
          · rw [exs_cons, List.mem_append] at h2
            rcases h2 with h2 | h2
            · exact .inl ⟨t, h1, h2⟩
            · rw [mem_ex] at h1
              have := y4.low _ h2
              dsimp only at h1 this
              omega
          · exact .inr ⟨t, h1, h2⟩
      · rw [List.mem_append] at hr
        rcases hr with hr | hr
        · split at hr
          · rw [List.mem_singleton] at hr
            subst hr
            dsimp only
            omega
          · simp at hr
        · exact i2 r hr
      · rw [exs_append]
        refine List.pairwise_append.2 ⟨?_, i3, fun r hr s hs => ?_⟩
        · split
          · rw [exs_one]; exact up_un _ _ _
          · exact List.Pairwise.nil
        · obtain ⟨i, j, z⟩ := r
          have hz : z = 1 := by
            split at hr
            · rw [exs_one, mem_ex] at hr; exact hr.1
            · simp [exs] at hr
          subst hz
          obtain ⟨t, h1, h2⟩ := (hhead i j).1 hr
          obtain ⟨i', j', z'⟩ := s
          have hz' : z' = 1 := by
            rw [mem_exs] at hs
            obtain ⟨p', _, hp⟩ := hs
            rw [mem_ex] at hp
            exact hp.1
          subst hz'
          obtain ⟨t', h3, h4⟩ := (i1 i' j').1 hs
          have l3 := x4.low _ h3
          rw [mem_ex] at h1
          dsimp only at h1 l3 ⊢
          refine ⟨by omega, ?_⟩
          have hc := up_cmp hY0.up ⟨t, j, 1⟩ (by rw [exs_cons]; exact List.mem_append_left _ h2) ⟨t', j', 1⟩ h4
          rcases hc with hc | hc | hc
          · cases hc; omega
          · exact hc.2
          · dsimp only at hc; omega
    · have ih := ih2
      have hX0 := hX
      obtain ⟨x1, x2, x3, x4⟩ := hX
      obtain ⟨y1, y2, y3, y4⟩ := hY
      obtain ⟨i1, i2, i3⟩ := ih _ _ _ _ hX0 y4
      rw [bothR, if_neg hto]
      have hhead : ∀ i j, (⟨i, j, 1⟩ : Rn) ∈ exs (if max p.b q.a < min (p.b + p.n) (q.a + q.n) then [⟨p.a + (max p.b q.a - p.b), q.b + (max p.b q.a - q.a), min (p.b + p.n) (q.a + q.n) - max p.b q.a⟩] else []) ↔ ∃ t, (⟨i, t, 1⟩ : Rn) ∈ ex p ∧ (⟨t, j, 1⟩ : Rn) ∈ ex q := both_head p q x3 y3
      refine ⟨fun i j => ?_, fun r hr => ?_, ?_⟩
      · rw [exs_append, List.mem_append, hhead, i1]
        constructor
        · rintro (⟨t, h1, h2⟩ | ⟨t, h1, h2⟩)
          · exact ⟨t, by rw [exs_cons]; exact List.mem_append_left _ h1, by rw [exs_cons]; exact List.mem_append_left _ h2⟩
          · exact ⟨t, h1, by rw [exs_cons]; exact List.mem_append_right _ h2⟩
        · rintro ⟨t, h1, h2⟩
          rw [exs_cons, List.mem_append] at h2
          rcases h2 with h2 | h2
          · rw [exs_cons, List.mem_append] at h1
            rcases h1 with h1 | h1
            · exact .inl ⟨t, h1, h2⟩
            · rw [mem_ex] at h2
              have := x4.low _ h1
              dsimp only at h2 this
              omega
          · exact .inr ⟨t, h1, h2⟩
      · rw [List.mem_append] at hr
        rcases hr with hr | hr
        · split at hr
          · rw [List.mem_singleton] at hr
            subst hr
            dsimp only
            omega
          · simp at hr
        · exact i2 r hr
      · rw [exs_append]
        refine List.pairwise_append.2 ⟨?_, i3, fun r hr s hs => ?_⟩
        · split
          · rw [exs_one]; exact up_un _ _ _
          · exact List.Pairwise.nil
        · obtain ⟨i, j, z⟩ := r
          have hz : z = 1 := by
            split at hr
            · rw [exs_one, mem_ex] at hr; exact hr.1
            · simp [exs] at hr
          subst hz
          obtain ⟨t, h1, h2⟩ := (hhead i j).1 hr
          obtain ⟨i', j', z'⟩ := s
          have hz' : z' = 1 := by
            rw [mem_exs] at hs
            obtain ⟨p', _, hp⟩ := hs
            rw [mem_ex] at hp
            exact hp.1
          subst hz'
          obtain ⟨t', h3, h4⟩ := (i1 i' j').1 hs
          have l4 := y4.low _ h4
          rw [mem_ex] at h2
          dsimp only at h2 l4 ⊢
          refine ⟨?_, by omega⟩
          have hc := up_cmp hX0.up ⟨i, t, 1⟩ (by rw [exs_cons]; exact List.mem_append_left _ h1) ⟨i', t', 1⟩ h3
          rcases hc with hc | hc | hc
          · cases hc; omega
          · exact hc.1
          · dsimp only at hc; omega

/-- the pairs of two scripts, one behind the other -/
def compP (x y : List Ch) (n m k : Int) : List Rn := exs (bothR (rns 0 0 n m x) (rns 0 0 m k y))
/-- two scripts, one behind the other -/
def compS (x y : List Ch) (n m k : Int) : List Ch := betw 0 0 (bothR (rns 0 0 n m x) (rns 0 0 m k y) ++ [⟨n, k, 0⟩])
section
variable {x y : List Ch} {n m k : Int} (hx : Script x n m) (hy : Script y m k)
include hx hy
theorem comp_spec : (∀ i j, (⟨i, j, 1⟩ : Rn) ∈ compP x y n m k ↔ ∃ t, (⟨i, t, 1⟩ : Rn) ∈ U 0 0 n m x ∧ (⟨t, j, 1⟩ : Rn) ∈ U 0 0 m k y) ∧ Up (compP x y n m k) ∧ compS x y n m k = betw 0 0 (compP x y n m k ++ [⟨n, k, 0⟩]) := by
  obtain ⟨h1, h2, h3⟩ := both_spec _ _ _ _ _ _ hx.2.2.chain hy.2.2.chain
  exact ⟨h1, h3, betw_exs _ _ _ h2 _⟩
omit hx hy in
theorem comp_unit : ∀ r ∈ compP x y n m k, r.n = 1 := by
  intro r hr
  unfold compP at hr
  rw [mem_exs] at hr
  obtain ⟨p, _, hp⟩ := hr
  rw [mem_ex] at hp
  exact hp.1
theorem comp_fit : Fit 0 0 n k (compP x y n m k) := by
  obtain ⟨h1, h2, _⟩ := comp_spec hx hy
  refine fit_of_up h2 (fun r hr => ?_) hx.1 hy.2.1
  have hu := comp_unit r hr
  obtain ⟨i, j, z⟩ := r
  dsimp only at hu
  subst hu
  obtain ⟨t, q1, q2⟩ := (h1 i j).1 hr
  have b1 := hx.2.2.bounds _ q1
  have b2 := hy.2.2.bounds _ q2
  dsimp only at b1 b2 ⊢
  omega
theorem comp_script (hn : n ≤ 2147483647) (hk : k ≤ 2147483647) : Script (compS x y n m k) n k ∧ U 0 0 n k (compS x y n m k) = compP x y n m k := by
  obtain ⟨_, _, h3⟩ := comp_spec hx hy
  rw [h3]
  have := fit_right (comp_fit hx hy) (Int.le_refl _) (Int.le_refl _) hn hk
  exact ⟨⟨hx.1, hy.2.1, this.1⟩, this.2⟩
end
theorem unit_ext {P Q : List Rn} (hP : UpA P) (hQ : UpA Q) (p1 : ∀ r ∈ P, r.n = 1) (q1 : ∀ r ∈ Q, r.n = 1) (h : ∀ i j, (⟨i, j, 1⟩ : Rn) ∈ P ↔ (⟨i, j, 1⟩ : Rn) ∈ Q) : P = Q := by
  refine upA_ext hP hQ fun r => ?_
  obtain ⟨i, j, z⟩ := r
  constructor
  · intro hr
    have : z = 1 := p1 _ hr
    subst this
    exact (h i j).1 hr
  · intro hr
    have : z = 1 := q1 _ hr
    subst this
    exact (h i j).2 hr
theorem U_unit {f : Bool} {a b n m : Int} {l : List Ch} (h : Right f a b n m l) : ∀ r ∈ U a b n m l, r.n = 1 := fun r hr => (h.bounds r hr).1
/-- putting together is associative -/
theorem comp_assoc {x y z : List Ch} {n m k o : Int} (hx : Script x n m) (hy : Script y m k) (hz : Script z k o) (hn : n ≤ 2147483647) (hm : m ≤ 2147483647) (hk : k ≤ 2147483647) (ho : o ≤ 2147483647) :
    compS (compS x y n m k) z n k o = compS x (compS y z m k o) n m o := by
  obtain ⟨s1, u1⟩ := comp_script hx hy hn hk
  obtain ⟨s2, u2⟩ := comp_script hy hz hm ho
  obtain ⟨m1, p1, e1⟩ := comp_spec s1 hz
  obtain ⟨m2, p2, e2⟩ := comp_spec hx s2
  rw [e1, e2]
  congr 2
  refine unit_ext p1.a p2.a comp_unit comp_unit fun i j => ?_
  rw [m1, m2, u1, u2]
  constructor
  · rintro ⟨t, h1, h2⟩
    obtain ⟨s, h3, h4⟩ := ((comp_spec hx hy).1 i t).1 h1
    exact ⟨s, h3, ((comp_spec hy hz).1 s j).2 ⟨t, h4, h2⟩⟩
  · rintro ⟨s, h3, h4⟩
    obtain ⟨t, h5, h6⟩ := ((comp_spec hy hz).1 s j).1 h4
    exact ⟨t, ((comp_spec hx hy).1 i t).2 ⟨s, h3, h5⟩, h6⟩
theorem nil_script {n : Int} (h : 0 ≤ n) : Script [] n n := ⟨h, h, h, h, rfl⟩
theorem comp_nil {x : List Ch} {n m : Int} (hx : Script x n m) : compS x [] n m m = x := by
  have hy := nil_script hx.2.1
  obtain ⟨m1, p1, e1⟩ := comp_spec hx hy
  rw [e1]
  have : compP x [] n m m = U 0 0 n m x := by
    refine unit_ext p1.a hx.2.2.up.a comp_unit (U_unit hx.2.2) fun i j => ?_
    rw [m1]
    constructor
    · rintro ⟨t, h1, h2⟩
      rw [U_nil, mem_un] at h2
      dsimp only at h2
      obtain rfl : t = j := by omega
      exact h1
    · intro h
      refine ⟨j, h, ?_⟩
      have := hx.2.2.bounds _ h
      rw [U_nil, mem_un]
      dsimp only at this ⊢
      omega
  rw [this, betw_U hx.2.2]
theorem nil_comp {x : List Ch} {n m : Int} (hx : Script x n m) : compS [] x n n m = x := by
  have hy := nil_script hx.1
  obtain ⟨m1, p1, e1⟩ := comp_spec hy hx
  rw [e1]
  have : compP [] x n n m = U 0 0 n m x := by
    refine unit_ext p1.a hx.2.2.up.a comp_unit (U_unit hx.2.2) fun i j => ?_
    rw [m1]
    constructor
    · rintro ⟨t, h1, h2⟩
      rw [U_nil, mem_un] at h1
      dsimp only at h1
      obtain rfl : t = i := by omega
      exact h2
    · intro h
      refine ⟨i, ?_, h⟩
      have := hx.2.2.bounds _ h
      rw [U_nil, mem_un]
      dsimp only at this ⊢
      omega
  rw [this, betw_U hx.2.2]

/-- two lists of what is kept, one behind the other -/
def compK (p q : List Int) : List Int := p.map fun z => if 0 ≤ z then q.getD z.toNat (-1) else -1
theorem compK_kept {x y : List Ch} {n m k : Int} (hx : Script x n m) (hy : Script y m k) : keptR 0 (compK (kr 0 0 n m x) (kr 0 0 m k y)) = compP x y n m k := by
  obtain ⟨m1, p1, _⟩ := comp_spec hx hy
  refine unit_ext (keptR_up _ _) p1.a (fun r hr => (mem_keptR.1 hr).1) comp_unit fun i j => ?_
  rw [m1]
  rw [← kr_kept hx.2.2 (Int.le_refl _), ← kr_kept hy.2.2 (Int.le_refl _)]
  simp only [mem_keptR]
  have hp := kr_each hx.2.2 (Int.le_refl _)
  have hq := kr_each hy.2.2 (Int.le_refl _)
  have hql := kr_length hy.2.2
  generalize kr 0 0 n m x = p at *
  generalize kr 0 0 m k y = q at *
  simp only [compK, List.getElem?_map, true_and, Int.sub_zero]
  constructor
  · rintro ⟨h1, h2, h3⟩
    cases hz : p[i.toNat]? with
    | none => rw [hz] at h2; simp at h2
    | some z =>
      rw [hz] at h2
      simp only [Option.map_some, Option.some_inj] at h2
      split at h2
      · rename_i h0
        refine ⟨z, ⟨h1, rfl, by omega⟩, h0, ?_, h3⟩
        rw [List.getD, ] at h2
        cases hq2 : q[z.toNat]? with
        | none => rw [hq2] at h2; simp at h2; omega
        | some w => rw [hq2] at h2; simp at h2; rw [h2]
      · omega
  · rintro ⟨t, ⟨h1, h2, h3⟩, h4, h5, h6⟩
    refine ⟨h1, ?_, h6⟩
    rw [h2]
    simp only [Option.map_some, Option.some_inj]
    rw [if_pos h4, List.getD, h5]
    rfl
end Go.Proofs.Ytppdcjjkkckokaa
