/-
  Rising rows of pairs: how long the longest one is that begins with each member, heads of rows, what is picked: plain.
-/
import Derived.Test.YtppdcjjkkckokaaEdM4
namespace Go.Proofs.Ytppdcjjkkckokaa

/-- a place of each text -/
structure Pr where
  X : Int
  Y : Int
/-- p may stand behind q in a rising row -/
def ab (p q : Pr) : Prop := q.X < p.X ∧ q.Y < p.Y
instance decAb (p q : Pr) : Decidable (ab p q) := inferInstanceAs (Decidable (q.X < p.X ∧ q.Y < p.Y))
theorem ab_trans {p q r : Pr} (h : ab p q) (h' : ab q r) : ab p r := ⟨Int.lt_trans h'.1 h.1, Int.lt_trans h'.2 h.2⟩
/-- the greatest length among those that may stand behind p -/
def mxl (p : Pr) : List Pr → List Nat → Nat
  | t :: ts, n :: ns => if ab t p then max n (mxl p ts ns) else mxl p ts ns
  | _, _ => 0
/-- how long the longest rising row is that begins with each member -/
def rl : List Pr → List Nat
  | [] => []
  | p :: t => (mxl p t (rl t) + 1) :: rl t
theorem rl_length (l : List Pr) : (rl l).length = l.length := by
  induction l with
  | nil => rfl
  | cons p t ih => simp [rl, ih]
theorem mxl_ge (p : Pr) (t : List Pr) (ns : List Nat) (k : Nat) (q : Pr) (n : Nat) (hq : t[k]? = some q) (hn : ns[k]? = some n) (ha : ab q p) : n ≤ mxl p t ns := by
  induction t generalizing ns k with
  | nil => simp at hq
  | cons a t ih =>
    cases ns with
    | nil => simp at hn
    | cons b ns =>
      rw [mxl]
      cases k with
      | zero =>
        simp at hq hn
        subst hq hn
        rw [if_pos ha]
        omega
      | succ k =>
        have := ih ns k (by simpa using hq) (by simpa using hn)
        split <;> omega
theorem mxl_at (p : Pr) (t : List Pr) (ns : List Nat) (h : 0 < mxl p t ns) : ∃ (k : Nat) (q : Pr), t[k]? = some q ∧ ns[k]? = some (mxl p t ns) ∧ ab q p := by
  induction t generalizing ns with
  | nil => simp [mxl] at h
  | cons a t ih =>
    cases ns with
    | nil => simp [mxl] at h
    | cons b ns =>
      rw [mxl] at h ⊢
      by_cases ha : ab a p
      · rw [if_pos ha] at h ⊢
        by_cases hb : mxl p t ns ≤ b
        · exact ⟨0, a, rfl, by simp; omega, ha⟩
        · obtain ⟨k, q, h1, h2, h3⟩ := ih ns (by omega)
          exact ⟨k + 1, q, by simpa using h1, by simp [h2]; omega, h3⟩
      · rw [if_neg ha] at h ⊢
        obtain ⟨k, q, h1, h2, h3⟩ := ih ns h
        exact ⟨k + 1, q, by simpa using h1, by simpa using h2, h3⟩
/-- a row of n + 1 members may stand behind p -/
def Hd (t : List Pr) (n : Nat) (p : Pr) : Prop := ∃ (k : Nat) (q : Pr), t[k]? = some q ∧ (rl t)[k]? = some (n + 1) ∧ ab q p
theorem Hd.down {t : List Pr} {n : Nat} {p : Pr} (h : Hd t (n + 1) p) : Hd t n p := by
  obtain ⟨k, q, h1, h2, h3⟩ := h
  induction t generalizing k with
  | nil => simp at h1
  | cons a t ih =>
    cases k with
    | zero =>
      simp [rl] at h1 h2
      subst h1
      obtain ⟨j, r, g1, g2, g3⟩ := mxl_at a t (rl t) (by omega)
      exact ⟨j + 1, r, by simpa using g1, by simp [rl, g2, h2], ab_trans g3 h3⟩
    | succ k =>
      obtain ⟨j, r, g1, g2, g3⟩ := ih k (by simpa using h1) (by simpa [rl] using h2)
      exact ⟨j + 1, r, by simpa using g1, by simpa [rl] using g2, g3⟩
theorem Hd.downs {t : List Pr} {n m : Nat} {p : Pr} (h : Hd t n p) (hm : m ≤ n) : Hd t m p := by
  induction n with
  | zero => obtain rfl : m = 0 := by omega
            exact h
  | succ n ih =>
    by_cases e : m = n + 1
    · subst e; exact h
    · exact ih h.down (by omega)
/-- X falls, Y rises, each of which may stay -/
def Stair (h : List Pr) : Prop := h.Pairwise fun a b => b.X ≤ a.X ∧ a.Y ≤ b.Y
/-- the heads of rows of each length, for what stands behind -/
structure Hds (t : List Pr) (H : List (List Pr)) : Prop where
  st : ∀ h ∈ H, Stair h
  eq : ∀ n h, H[n]? = some h → ∀ p, (∃ a ∈ h, ab a p) ↔ Hd t n p
  top : ∀ n ∈ rl t, n ≤ H.length
theorem Hds.start : Hds [] [] := ⟨by simp, by simp, by simp [rl]⟩
theorem Hds.beyond {t : List Pr} {H : List (List Pr)} (h : Hds t H) {n : Nat} (hn : H.length ≤ n) (p : Pr) : ¬ Hd t n p := by
  rintro ⟨k, q, h1, h2, h3⟩
  have := h.top (n + 1) (List.mem_of_getElem? h2)
  omega
/-- the first that is not behind p: so long is the longest row behind p -/
theorem mxl_of {t : List Pr} {H : List (List Pr)} (_h : Hds t H) {p : Pr} {n : Nat} (h1 : ∀ m, m < n → Hd t m p) (h2 : ¬ Hd t n p) : mxl p t (rl t) = n := by
  have hle : mxl p t (rl t) ≤ n := by
    by_cases hc : mxl p t (rl t) ≤ n
    · exact hc
    · exfalso
      obtain ⟨k, q, g1, g2, g3⟩ := mxl_at p t (rl t) (by omega)
      have : Hd t (mxl p t (rl t) - 1) p := ⟨k, q, g1, by rw [g2]; congr 1; omega, g3⟩
      exact h2 (this.downs (by omega))
  cases n with
  | zero => omega
  | succ n =>
    obtain ⟨k, q, g1, g2, g3⟩ := h1 n (Nat.lt_succ_self n)
    have := mxl_ge p t (rl t) k q (n + 1) g1 g2 g3
    omega
/-- how many of the heads have a greater X -/
def upto (h : List Pr) (x : Int) : Nat := h.findIdx fun a => decide (a.X ≤ x)
/-- how many of the heads have no greater Y -/
def grt (h : List Pr) (y : Int) : Nat := h.findIdx fun a => decide (y < a.Y)
/-- the heads and p -/
def ins (h : List Pr) (p : Pr) : List Pr := h.take (upto h p.X) ++ p :: h.drop (grt h p.Y)
theorem upto_le (h : List Pr) (x : Int) : upto h x ≤ h.length := List.findIdx_le_length
theorem grt_le (h : List Pr) (y : Int) : grt h y ≤ h.length := List.findIdx_le_length
theorem upto_lt {h : List Pr} {x : Int} {i : Nat} (hi : i < upto h x) (hl : i < h.length) : x < h[i].X := by
  have := List.not_of_lt_findIdx (p := fun a : Pr => decide (a.X ≤ x)) (xs := h) hi
  simpa using this
theorem upto_ge {h : List Pr} (hs : Stair h) {x : Int} {i : Nat} (hi : upto h x ≤ i) (hl : i < h.length) : h[i].X ≤ x := by
  have h0 : upto h x < h.length := by omega
  have h1 : h[upto h x].X ≤ x := of_decide_eq_true (List.findIdx_getElem (p := fun a : Pr => decide (a.X ≤ x)) (xs := h) (w := h0))
  by_cases e : upto h x = i
  · simpa [e] using h1
  · have := (List.pairwise_iff_getElem.1 hs) (upto h x) i h0 hl (by omega)
    omega
theorem grt_lt {h : List Pr} {y : Int} {i : Nat} (hi : i < grt h y) (hl : i < h.length) : h[i].Y ≤ y := by
  have := List.not_of_lt_findIdx (p := fun a : Pr => decide (y < a.Y)) (xs := h) hi
  simpa using this
theorem grt_ge {h : List Pr} (hs : Stair h) {y : Int} {i : Nat} (hi : grt h y ≤ i) (hl : i < h.length) : y < h[i].Y := by
  have h0 : grt h y < h.length := by omega
  have h1 : y < h[grt h y].Y := of_decide_eq_true (List.findIdx_getElem (p := fun a : Pr => decide (y < a.Y)) (xs := h) (w := h0))
  by_cases e : grt h y = i
  · simpa [e] using h1
  · have := (List.pairwise_iff_getElem.1 hs) (grt h y) i h0 hl (by omega)
    omega
/-- one of the heads may stand behind p just if the last one with a great enough X does -/
theorem behind_iff {h : List Pr} (hs : Stair h) (p : Pr) : (∃ a ∈ h, ab a p) ↔ 0 < upto h p.X ∧ ∃ a, h[upto h p.X - 1]? = some a ∧ p.Y < a.Y := by
  constructor
  · rintro ⟨a, ha, h1, h2⟩
    obtain ⟨i, hi, rfl⟩ := List.getElem_of_mem ha
    have hlt : i < upto h p.X := by
      by_cases c : i < upto h p.X
      · exact c
      · have := upto_ge hs (x := p.X) (i := i) (by omega) hi; omega
    have hle := upto_le h p.X
    refine ⟨by omega, h[upto h p.X - 1], List.getElem?_eq_getElem (by omega), ?_⟩
    by_cases e : i = upto h p.X - 1
    · simpa [← e] using h2
    · have := (List.pairwise_iff_getElem.1 hs) i (upto h p.X - 1) hi (by omega) (by omega)
      omega
  · rintro ⟨h0, a, ha, h1⟩
    obtain ⟨hl, rfl⟩ := List.getElem?_eq_some_iff.1 ha
    exact ⟨_, List.getElem_mem _, upto_lt (by omega) hl, h1⟩
theorem upto_grt {h : List Pr} (hs : Stair h) {p : Pr} (hn : ¬ ∃ a ∈ h, ab a p) : upto h p.X ≤ grt h p.Y := by
  by_cases c : upto h p.X ≤ grt h p.Y
  · exact c
  · exfalso
    have hl := upto_le h p.X
    exact hn ⟨h[grt h p.Y]'(by omega), List.getElem_mem _, upto_lt (by omega) (by omega), grt_ge hs (Nat.le_refl _) (by omega)⟩
theorem ins_stair {h : List Pr} (hs : Stair h) {p : Pr} (hn : ¬ ∃ a ∈ h, ab a p) : Stair (ins h p) := by
  unfold ins Stair
  rw [List.pairwise_append]
  refine ⟨hs.take, ?_, ?_⟩
  · rw [List.pairwise_cons]
    refine ⟨fun a ha => ?_, hs.drop⟩
    obtain ⟨i, hi, rfl⟩ := List.getElem_of_mem ha
    rw [List.length_drop] at hi
    rw [List.getElem_drop]
    have hug := upto_grt hs hn
    exact ⟨upto_ge hs (by omega) (by omega), Int.le_of_lt (grt_ge hs (by omega) (by omega))⟩
  · intro a ha b hb
    obtain ⟨i, hi, rfl⟩ := List.getElem_of_mem ha
    rw [List.length_take] at hi
    rw [List.getElem_take]
    have h1 := upto_lt (h := h) (x := p.X) (i := i) (by omega) (by omega)
    rw [List.mem_cons] at hb
    rcases hb with hb | hb
    · rw [hb]
      refine ⟨Int.le_of_lt h1, ?_⟩
      by_cases c : h[i].Y ≤ p.Y
      · exact c
      · exact absurd ⟨h[i], List.getElem_mem _, h1, by omega⟩ hn
    · obtain ⟨j, hj, rfl⟩ := List.getElem_of_mem hb
      rw [List.length_drop] at hj
      rw [List.getElem_drop]
      have hug := upto_grt hs hn
      exact (List.pairwise_iff_getElem.1 hs) i (grt h p.Y + j) (by omega) (by omega) (by omega)
theorem ins_ab {h : List Pr} (hs : Stair h) {p : Pr} (hn : ¬ ∃ a ∈ h, ab a p) (q : Pr) : (∃ a ∈ ins h p, ab a q) ↔ ab p q ∨ ∃ a ∈ h, ab a q := by
  constructor
  · rintro ⟨a, ha, hq⟩
    unfold ins at ha
    rw [List.mem_append, List.mem_cons] at ha
    rcases ha with ha | rfl | ha
    · exact .inr ⟨a, List.mem_of_mem_take ha, hq⟩
    · exact .inl hq
    · exact .inr ⟨a, List.mem_of_mem_drop ha, hq⟩
  · rintro (hq | ⟨a, ha, hq⟩)
    · exact ⟨p, by simp [ins], hq⟩
    · obtain ⟨i, hi, rfl⟩ := List.getElem_of_mem ha
      by_cases c1 : i < upto h p.X
      · refine ⟨h[i], ?_, hq⟩
        unfold ins
        rw [List.mem_append]
        left
        rw [List.mem_take_iff_getElem]
        exact ⟨i, by omega, rfl⟩
      · by_cases c2 : i < grt h p.Y
        · have h1 := upto_ge hs (x := p.X) (i := i) (by omega) hi
          have h2 := grt_lt (y := p.Y) (i := i) c2 hi
          have := hq.1
          have := hq.2
          exact ⟨p, by simp [ins], by unfold ab; omega⟩
        · refine ⟨h[i], ?_, hq⟩
          unfold ins
          rw [List.mem_append, List.mem_cons]
          right; right
          rw [List.mem_drop_iff_getElem]
          exact ⟨i - grt h p.Y, by omega, by congr 1; omega⟩
/-- one more list of heads, where there is none yet -/
def room (H : List (List Pr)) (n : Nat) : List (List Pr) := if n = H.length then H ++ [[]] else H
theorem Hds.step {t : List Pr} {H : List (List Pr)} (h : Hds t H) {p : Pr} {n : Nat} (hn : n ≤ H.length) (h1 : ∀ m, m < n → Hd t m p) (h2 : ¬ Hd t n p) (g : List Pr) (hg : (room H n)[n]? = some g) :
    Hds (p :: t) ((room H n).set n (ins g p)) ∧ rl (p :: t) = (n + 1) :: rl t ∧ Stair g ∧ ¬ ∃ a ∈ g, ab a p := by
  have hm := mxl_of h h1 h2
  have hr : rl (p :: t) = (n + 1) :: rl t := by rw [rl, hm]
  have hgs : Stair g ∧ ∀ q, (∃ a ∈ g, ab a q) ↔ Hd t n q := by
    unfold room at hg
    by_cases e : n = H.length
    · rw [if_pos e, e, List.getElem?_append_right (Nat.le_refl _)] at hg
      simp at hg
      subst hg
      exact ⟨List.Pairwise.nil, fun q => ⟨by simp, fun hh => absurd hh (h.beyond (by omega) q)⟩⟩
    · rw [if_neg e] at hg
      exact ⟨h.st g (List.mem_of_getElem? hg), h.eq n g hg⟩
  have hna : ¬ ∃ a ∈ g, ab a p := fun c => h2 ((hgs.2 p).1 c)
  have hlen : H.length ≤ (room H n).length ∧ n < (room H n).length := by unfold room; split <;> simp <;> omega
  refine ⟨⟨?_, ?_, ?_⟩, hr, hgs.1, hna⟩
  · intro k hk
    rcases List.mem_or_eq_of_mem_set hk with hk | rfl
    · unfold room at hk
      split at hk
      · rw [List.mem_append, List.mem_singleton] at hk
        rcases hk with hk | rfl
        · exact h.st k hk
        · exact List.Pairwise.nil
      · exact h.st k hk
    · exact ins_stair hgs.1 hna
  · intro m k hk q
    by_cases e : m = n
    · subst e
      rw [List.getElem?_set_self hlen.2] at hk
      cases hk
      rw [ins_ab hgs.1 hna, hgs.2]
      constructor
      · rintro (hq | ⟨j, r, g1, g2, g3⟩)
        · exact ⟨0, p, rfl, by rw [hr]; rfl, hq⟩
        · exact ⟨j + 1, r, by simpa using g1, by rw [hr]; simpa using g2, g3⟩
      · rintro ⟨j, r, g1, g2, g3⟩
        cases j with
        | zero => simp at g1; subst g1; exact .inl g3
        | succ j => exact .inr ⟨j, r, by simpa using g1, by rw [hr] at g2; simpa using g2, g3⟩
    · rw [List.getElem?_set_ne (fun e' => e e'.symm)] at hk
      have hk' : H[m]? = some k := by
        unfold room at hk
        split at hk
        · by_cases hml : m < H.length
          · rwa [List.getElem?_append_left hml] at hk
          · have := (List.getElem?_eq_some_iff.1 hk).1
            simp at this
            omega
        · exact hk
      rw [h.eq m k hk']
      constructor
      · rintro ⟨j, r, g1, g2, g3⟩
        exact ⟨j + 1, r, by simpa using g1, by rw [hr]; simpa using g2, g3⟩
      · rintro ⟨j, r, g1, g2, g3⟩
        cases j with
        | zero => rw [hr] at g2; simp at g2; omega
        | succ j => exact ⟨j, r, by simpa using g1, by rw [hr] at g2; simpa using g2, g3⟩
  · intro m hm'
    rw [hr, List.mem_cons] at hm'
    rw [List.length_set]
    rcases hm' with rfl | hm'
    · omega
    · have := h.top m hm'
      omega
/-- what is picked: the next member of a longest row, from the front -/
def pick : Nat → Option Pr → List Pr → List Nat → List Pr
  | left, last, p :: l, n :: ns => if n = left ∧ (∀ q, last = some q → ab p q) then p :: pick (left - 1) (some p) l ns else pick left last l ns
  | _, _, _, _ => []
/-- the greatest number -/
def mxn : List Nat → Nat
  | [] => 0
  | n :: ns => max n (mxn ns)
/-- a longest rising row -/
def lng (l : List Pr) : List Pr := pick (mxn (rl l)) none l (rl l)
end Go.Proofs.Ytppdcjjkkckokaa
