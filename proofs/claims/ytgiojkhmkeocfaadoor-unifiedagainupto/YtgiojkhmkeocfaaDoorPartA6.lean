/-
  Texts that belong together, joined: PaMath, PaRow, PaCp, EdMk, MiMath, MiLen, MiMs, MiFr, MiLc, MiRep, MiKp, MiKw, MiDf, MiKm, PcMath, HiMath.
-/
import Derived.Test.YtgiojkhmkeocfaaDoorPartA2
import Derived.Test.YtgiojkhmkeocfaaDoorPartA4
import Derived.Laws.CopyOwn
import Derived.Lib.Overlaps
import Derived.Lib.AppendZerosOnto
import Derived.Deep.CutRange
import Derived.Sort.AtCall
import Derived.Laws.Bits64b

/- Rising rows of pairs: how long the longest one is that begins with each member, heads of rows, what is picked: plain. -/
namespace Go.Proofs.YtgiojkhmkeocfaaDoor

/-- a place of each text -/
structure Pr where
  X : Int
  Y : Int
/-- p may stand behind q in a rising row -/
abbrev ab (p q : Pr) : Prop := q.X < p.X ∧ q.Y < p.Y
theorem ab_trans {p q r : Pr} (h : ab p q) (h' : ab q r) : ab p r := ⟨Int.lt_trans h'.1 h.1, Int.lt_trans h'.2 h.2⟩
/-- the greatest length among those that may stand behind p -/
def mxl (p : Pr) : List Pr → List Nat → Nat
  | t :: ts, n :: ns => if ab t p then max n (mxl p ts ns) else mxl p ts ns
  | _, _ => 0
/-- how long the longest rising row is that begins with each member -/
def rl : List Pr → List Nat
  | [] => []
  | p :: t => (mxl p t (rl t) + 1) :: rl t
theorem rl_length (l : List Pr) : (rl l).length = l.length := by
  induction l with
  | nil => rfl
  | cons p t ih => simp [rl, ih]
theorem mxl_ge (p : Pr) (t : List Pr) (ns : List Nat) (k : Nat) (q : Pr) (n : Nat) (hq : t[k]? = some q) (hn : ns[k]? = some n) (ha : ab q p) : n ≤ mxl p t ns := by
  induction t generalizing ns k with
  | nil => simp at hq
  | cons a t ih =>
    cases ns with
    | nil => simp at hn
    | cons b ns =>
      rw [mxl]
      cases k with
      | zero =>
        simp at hq hn
        subst hq hn
        rw [if_pos ha]
        omega
      | succ k =>
        have := ih ns k (by simpa using hq) (by simpa using hn)
        split <;> omega
theorem mxl_at (p : Pr) (t : List Pr) (ns : List Nat) (h : 0 < mxl p t ns) : ∃ (k : Nat) (q : Pr), t[k]? = some q ∧ ns[k]? = some (mxl p t ns) ∧ ab q p := by
  induction t generalizing ns with
  | nil => simp [mxl] at h
  | cons a t ih =>
    cases ns with
    | nil => simp [mxl] at h
    | cons b ns =>
      rw [mxl] at h ⊢
      by_cases ha : ab a p
      · rw [if_pos ha] at h ⊢
        by_cases hb : mxl p t ns ≤ b
        · exact ⟨0, a, rfl, by simp; omega, ha⟩
        · obtain ⟨k, q, h1, h2, h3⟩ := ih ns (by omega)
          exact ⟨k + 1, q, by simpa using h1, by simp [h2]; omega, h3⟩
      · rw [if_neg ha] at h ⊢
        obtain ⟨k, q, h1, h2, h3⟩ := ih ns h
        exact ⟨k + 1, q, by simpa using h1, by simpa using h2, h3⟩
/-- a row of n + 1 members may stand behind p -/
def Hd (t : List Pr) (n : Nat) (p : Pr) : Prop := ∃ (k : Nat) (q : Pr), t[k]? = some q ∧ (rl t)[k]? = some (n + 1) ∧ ab q p
theorem Hd.down {t : List Pr} {n : Nat} {p : Pr} (h : Hd t (n + 1) p) : Hd t n p := by
  obtain ⟨k, q, h1, h2, h3⟩ := h
  induction t generalizing k with
  | nil => simp at h1
  | cons a t ih =>
    cases k with
    | zero =>
      simp [rl] at h1 h2
      subst h1
      obtain ⟨j, r, g1, g2, g3⟩ := mxl_at a t (rl t) (by omega)
      exact ⟨j + 1, r, by simpa using g1, by simp [rl, g2, h2], ab_trans g3 h3⟩
    | succ k =>
      obtain ⟨j, r, g1, g2, g3⟩ := ih k (by simpa using h1) (by simpa [rl] using h2)
      exact ⟨j + 1, r, by simpa using g1, by simpa [rl] using g2, g3⟩
theorem Hd.downs {t : List Pr} {n m : Nat} {p : Pr} (h : Hd t n p) (hm : m ≤ n) : Hd t m p := by
  induction n with
  | zero => obtain rfl : m = 0 := by omega
            exact h
  | succ n ih =>
    by_cases e : m = n + 1
    · subst e; exact h
    · exact ih h.down (by omega)
/-- X falls, Y rises, each of which may stay -/
def Stair (h : List Pr) : Prop := h.Pairwise fun a b => b.X ≤ a.X ∧ a.Y ≤ b.Y
/-- the heads of rows of each length, for what stands behind -/
structure Hds (t : List Pr) (H : List (List Pr)) : Prop where
  st : ∀ h ∈ H, Stair h
  eq : ∀ n h, H[n]? = some h → ∀ p, (∃ a ∈ h, ab a p) ↔ Hd t n p
  top : ∀ n ∈ rl t, n ≤ H.length
theorem Hds.start : Hds [] [] := ⟨by simp, by simp, by simp [rl]⟩
theorem Hds.beyond {t : List Pr} {H : List (List Pr)} (h : Hds t H) {n : Nat} (hn : H.length ≤ n) (p : Pr) : ¬ Hd t n p := by
  rintro ⟨k, q, h1, h2, h3⟩
  have := h.top (n + 1) (List.mem_of_getElem? h2)
  omega
/-- the first that is not behind p: so long is the longest row behind p -/
theorem mxl_of {t : List Pr} {H : List (List Pr)} (_h : Hds t H) {p : Pr} {n : Nat} (h1 : ∀ m, m < n → Hd t m p) (h2 : ¬ Hd t n p) : mxl p t (rl t) = n := by
  have hle : mxl p t (rl t) ≤ n := by
    by_cases hc : mxl p t (rl t) ≤ n
    · exact hc
    · exfalso
      obtain ⟨k, q, g1, g2, g3⟩ := mxl_at p t (rl t) (by omega)
      have : Hd t (mxl p t (rl t) - 1) p := ⟨k, q, g1, by rw [g2]; congr 1; omega, g3⟩
      exact h2 (this.downs (by omega))
  cases n with
  | zero => omega
  | succ n =>
    obtain ⟨k, q, g1, g2, g3⟩ := h1 n (Nat.lt_succ_self n)
    have := mxl_ge p t (rl t) k q (n + 1) g1 g2 g3
    omega
/-- how many of the heads have a greater X -/
def upto (h : List Pr) (x : Int) : Nat := h.findIdx fun a => decide (a.X ≤ x)
/-- how many of the heads have no greater Y -/
def grt (h : List Pr) (y : Int) : Nat := h.findIdx fun a => decide (y < a.Y)
/-- the heads and p -/
def ins (h : List Pr) (p : Pr) : List Pr := h.take (upto h p.X) ++ p :: h.drop (grt h p.Y)
theorem upto_le (h : List Pr) (x : Int) : upto h x ≤ h.length := List.findIdx_le_length
theorem grt_le (h : List Pr) (y : Int) : grt h y ≤ h.length := List.findIdx_le_length
theorem upto_lt {h : List Pr} {x : Int} {i : Nat} (hi : i < upto h x) (hl : i < h.length) : x < h[i].X := by
  have := List.not_of_lt_findIdx (p := fun a : Pr => decide (a.X ≤ x)) (xs := h) hi
  simpa using this
theorem upto_ge {h : List Pr} (hs : Stair h) {x : Int} {i : Nat} (hi : upto h x ≤ i) (hl : i < h.length) : h[i].X ≤ x := by
  have h0 : upto h x < h.length := by omega
  have h1 : h[upto h x].X ≤ x := of_decide_eq_true (List.findIdx_getElem (p := fun a : Pr => decide (a.X ≤ x)) (xs := h) (w := h0))
  by_cases e : upto h x = i
  · simpa [e] using h1
  · have := (List.pairwise_iff_getElem.1 hs) (upto h x) i h0 hl (by omega)
    omega
theorem grt_lt {h : List Pr} {y : Int} {i : Nat} (hi : i < grt h y) (hl : i < h.length) : h[i].Y ≤ y := by
  have := List.not_of_lt_findIdx (p := fun a : Pr => decide (y < a.Y)) (xs := h) hi
  simpa using this
theorem grt_ge {h : List Pr} (hs : Stair h) {y : Int} {i : Nat} (hi : grt h y ≤ i) (hl : i < h.length) : y < h[i].Y := by
  have h0 : grt h y < h.length := by omega
  have h1 : y < h[grt h y].Y := of_decide_eq_true (List.findIdx_getElem (p := fun a : Pr => decide (y < a.Y)) (xs := h) (w := h0))
  by_cases e : grt h y = i
  · simpa [e] using h1
  · have := (List.pairwise_iff_getElem.1 hs) (grt h y) i h0 hl (by omega)
    omega
/-- one of the heads may stand behind p just if the last one with a great enough X does -/
theorem behind_iff {h : List Pr} (hs : Stair h) (p : Pr) : (∃ a ∈ h, ab a p) ↔ 0 < upto h p.X ∧ ∃ a, h[upto h p.X - 1]? = some a ∧ p.Y < a.Y := by
  constructor
  · rintro ⟨a, ha, h1, h2⟩
    obtain ⟨i, hi, rfl⟩ := List.getElem_of_mem ha
    have hlt : i < upto h p.X := by
      by_cases c : i < upto h p.X
      · exact c
      · have := upto_ge hs (x := p.X) (i := i) (by omega) hi; omega
    have hle := upto_le h p.X
    refine ⟨by omega, h[upto h p.X - 1], List.getElem?_eq_getElem (by omega), ?_⟩
    by_cases e : i = upto h p.X - 1
    · simpa [← e] using h2
    · have := (List.pairwise_iff_getElem.1 hs) i (upto h p.X - 1) hi (by omega) (by omega)
      omega
  · rintro ⟨h0, a, ha, h1⟩
    obtain ⟨hl, rfl⟩ := List.getElem?_eq_some_iff.1 ha
    exact ⟨_, List.getElem_mem _, upto_lt (by omega) hl, h1⟩
theorem upto_grt {h : List Pr} (hs : Stair h) {p : Pr} (hn : ¬ ∃ a ∈ h, ab a p) : upto h p.X ≤ grt h p.Y := by
  by_cases c : upto h p.X ≤ grt h p.Y
  · exact c
  · exfalso
    have hl := upto_le h p.X
    exact hn ⟨h[grt h p.Y]'(by omega), List.getElem_mem _, upto_lt (by omega) (by omega), grt_ge hs (Nat.le_refl _) (by omega)⟩
theorem ins_stair {h : List Pr} (hs : Stair h) {p : Pr} (hn : ¬ ∃ a ∈ h, ab a p) : Stair (ins h p) := by
  unfold ins Stair
  rw [List.pairwise_append]
  refine ⟨hs.take, ?_, ?_⟩
  · rw [List.pairwise_cons]
    refine ⟨fun a ha => ?_, hs.drop⟩
    obtain ⟨i, hi, rfl⟩ := List.getElem_of_mem ha
    rw [List.length_drop] at hi
    rw [List.getElem_drop]
    have hug := upto_grt hs hn
    exact ⟨upto_ge hs (by omega) (by omega), Int.le_of_lt (grt_ge hs (by omega) (by omega))⟩
  · intro a ha b hb
    obtain ⟨i, hi, rfl⟩ := List.getElem_of_mem ha
    rw [List.length_take] at hi
    rw [List.getElem_take]
    have h1 := upto_lt (h := h) (x := p.X) (i := i) (by omega) (by omega)
    rw [List.mem_cons] at hb
    rcases hb with hb | hb
    · rw [hb]
      refine ⟨Int.le_of_lt h1, ?_⟩
      by_cases c : h[i].Y ≤ p.Y
      · exact c
      · exact absurd ⟨h[i], List.getElem_mem _, h1, by omega⟩ hn
    · obtain ⟨j, hj, rfl⟩ := List.getElem_of_mem hb
      rw [List.length_drop] at hj
      rw [List.getElem_drop]
      have hug := upto_grt hs hn
      exact (List.pairwise_iff_getElem.1 hs) i (grt h p.Y + j) (by omega) (by omega) (by omega)
theorem ins_ab {h : List Pr} (hs : Stair h) {p : Pr} (hn : ¬ ∃ a ∈ h, ab a p) (q : Pr) : (∃ a ∈ ins h p, ab a q) ↔ ab p q ∨ ∃ a ∈ h, ab a q := by
  constructor
  · rintro ⟨a, ha, hq⟩
    unfold ins at ha
    rw [List.mem_append, List.mem_cons] at ha
    rcases ha with ha | rfl | ha
    · exact .inr ⟨a, List.mem_of_mem_take ha, hq⟩
    · exact .inl hq
    · exact .inr ⟨a, List.mem_of_mem_drop ha, hq⟩
  · rintro (hq | ⟨a, ha, hq⟩)
    · exact ⟨p, by simp [ins], hq⟩
    · obtain ⟨i, hi, rfl⟩ := List.getElem_of_mem ha
      by_cases c1 : i < upto h p.X
      · refine ⟨h[i], ?_, hq⟩
        unfold ins
        rw [List.mem_append]
        left
        rw [List.mem_take_iff_getElem]
        exact ⟨i, by omega, rfl⟩
      · by_cases c2 : i < grt h p.Y
        · have h1 := upto_ge hs (x := p.X) (i := i) (by omega) hi
          have h2 := grt_lt (y := p.Y) (i := i) c2 hi
          have := hq.1
          have := hq.2
          exact ⟨p, by simp [ins], by unfold ab; omega⟩
        · refine ⟨h[i], ?_, hq⟩
          unfold ins
          rw [List.mem_append, List.mem_cons]
          right; right
          rw [List.mem_drop_iff_getElem]
          exact ⟨i - grt h p.Y, by omega, by congr 1; omega⟩
/-- one more list of heads, where there is none yet -/
def room (H : List (List Pr)) (n : Nat) : List (List Pr) := if n = H.length then H ++ [[]] else H
theorem Hds.step {t : List Pr} {H : List (List Pr)} (h : Hds t H) {p : Pr} {n : Nat} (hn : n ≤ H.length) (h1 : ∀ m, m < n → Hd t m p) (h2 : ¬ Hd t n p) (g : List Pr) (hg : (room H n)[n]? = some g) :
    Hds (p :: t) ((room H n).set n (ins g p)) ∧ rl (p :: t) = (n + 1) :: rl t ∧ Stair g ∧ ¬ ∃ a ∈ g, ab a p := by
  have hm := mxl_of h h1 h2
  have hr : rl (p :: t) = (n + 1) :: rl t := by rw [rl, hm]
  have hgs : Stair g ∧ ∀ q, (∃ a ∈ g, ab a q) ↔ Hd t n q := by
    unfold room at hg
    by_cases e : n = H.length
    · rw [if_pos e, e, List.getElem?_append_right (Nat.le_refl _)] at hg
      simp at hg
      subst hg
      exact ⟨List.Pairwise.nil, fun q => ⟨by simp, fun hh => absurd hh (h.beyond (by omega) q)⟩⟩
    · rw [if_neg e] at hg
      exact ⟨h.st g (List.mem_of_getElem? hg), h.eq n g hg⟩
  have hna : ¬ ∃ a ∈ g, ab a p := fun c => h2 ((hgs.2 p).1 c)
  have hlen : H.length ≤ (room H n).length ∧ n < (room H n).length := by unfold room; split <;> simp <;> omega
  refine ⟨⟨?_, ?_, ?_⟩, hr, hgs.1, hna⟩
  · intro k hk
    rcases List.mem_or_eq_of_mem_set hk with hk | rfl
    · unfold room at hk
      split at hk
      · rw [List.mem_append, List.mem_singleton] at hk
        rcases hk with hk | rfl
        · exact h.st k hk
        · exact List.Pairwise.nil
      · exact h.st k hk
    · exact ins_stair hgs.1 hna
  · intro m k hk q
    by_cases e : m = n
    · subst e
      rw [List.getElem?_set_self hlen.2] at hk
      cases hk
      rw [ins_ab hgs.1 hna, hgs.2]
      constructor
      · rintro (hq | ⟨j, r, g1, g2, g3⟩)
        · exact ⟨0, p, rfl, by rw [hr]; rfl, hq⟩
        · exact ⟨j + 1, r, by simpa using g1, by rw [hr]; simpa using g2, g3⟩
      · rintro ⟨j, r, g1, g2, g3⟩
        cases j with
        | zero => simp at g1; subst g1; exact .inl g3
        | succ j => exact .inr ⟨j, r, by simpa using g1, by rw [hr] at g2; simpa using g2, g3⟩
    · rw [List.getElem?_set_ne (fun e' => e e'.symm)] at hk
      have hk' : H[m]? = some k := by
        unfold room at hk
        split at hk
        · by_cases hml : m < H.length
          · rwa [List.getElem?_append_left hml] at hk
          · have := (List.getElem?_eq_some_iff.1 hk).1
            simp at this
            omega
        · exact hk
      rw [h.eq m k hk']
      constructor
      · rintro ⟨j, r, g1, g2, g3⟩
        exact ⟨j + 1, r, by simpa using g1, by rw [hr]; simpa using g2, g3⟩
      · rintro ⟨j, r, g1, g2, g3⟩
        cases j with
        | zero => rw [hr] at g2; simp at g2; omega
        | succ j => exact ⟨j, r, by simpa using g1, by rw [hr] at g2; simpa using g2, g3⟩
  · intro m hm'
    rw [hr, List.mem_cons] at hm'
    rw [List.length_set]
    rcases hm' with rfl | hm'
    · omega
    · have := h.top m hm'
      omega
/-- what is picked: the next member of a longest row, from the front -/
def pick : Nat → Option Pr → List Pr → List Nat → List Pr
  | left, last, p :: l, n :: ns => if n = left ∧ (∀ q, last = some q → ab p q) then p :: pick (left - 1) (some p) l ns else pick left last l ns
  | _, _, _, _ => []
/-- the greatest number -/
def mxn : List Nat → Nat
  | [] => 0
  | n :: ns => max n (mxn ns)
/-- a longest rising row -/
def lng (l : List Pr) : List Pr := pick (mxn (rl l)) none l (rl l)
end Go.Proofs.YtgiojkhmkeocfaaDoor

/- Rows of pairs in memory: two cells a pair. -/
namespace Go.Proofs.YtgiojkhmkeocfaaDoor
open Go.RowKit

def prV (p : Pr) : Value := .agg #[.int .i64 p.X, .int .i64 p.Y]
def prC (p : Pr) : List Value := [.int .i64 p.X, .int .i64 p.Y]
def prcells (l : List Pr) : List Value := l.flatMap prC
theorem prcells_length (l : List Pr) : (prcells l).length = l.length * 2 := by
  induction l with
  | nil => rfl
  | cons p t ih => simp only [prcells, List.flatMap_cons, List.length_append, List.length_cons, prC, List.length_nil] at ih ⊢; omega
theorem prcells_append (a b : List Pr) : prcells (a ++ b) = prcells a ++ prcells b := by simp [prcells]
theorem prcells_one (l : List Pr) : ∀ u ∈ prcells l, u.oneCell' = true := by
  intro u hu
  simp only [prcells, List.mem_flatMap] at hu
  obtain ⟨p, _, hp⟩ := hu
  simp [prC] at hp
  rcases hp with rfl | rfl <;> rfl
theorem prcells_at (l : List Pr) (k : Nat) (hk : k < l.length) : (prcells l)[2 * k]? = some (.int .i64 l[k].X) ∧ (prcells l)[2 * k + 1]? = some (.int .i64 l[k].Y) := by
  induction l generalizing k with
  | nil => simp at hk
  | cons p t ih =>
    have e : prcells (p :: t) = .int .i64 p.X :: .int .i64 p.Y :: prcells t := rfl
    cases k with
    | zero => rw [e]; exact ⟨rfl, rfl⟩
    | succ k =>
      have := ih k (by simpa using hk)
      rw [e, show 2 * (k + 1) = 2 * k + 1 + 1 by omega]
      simpa using this
theorem prcells_take (l : List Pr) (k : Nat) : prcells (l.take k) = (prcells l).take (2 * k) := by
  induction l generalizing k with
  | nil => simp [prcells]
  | cons p t ih =>
    cases k with
    | zero => simp [prcells]
    | succ k =>
      have e : prcells (p :: t) = .int .i64 p.X :: .int .i64 p.Y :: prcells t := rfl
      have e2 : prcells ((p :: t).take (k + 1)) = .int .i64 p.X :: .int .i64 p.Y :: prcells (t.take k) := rfl
      rw [e, e2, ih, show 2 * (k + 1) = 2 * k + 1 + 1 by omega]
      rfl
theorem prcells_drop (l : List Pr) (k : Nat) : prcells (l.drop k) = (prcells l).drop (2 * k) := by
  induction l generalizing k with
  | nil => simp [prcells]
  | cons p t ih =>
    cases k with
    | zero => simp
    | succ k =>
      have e : prcells (p :: t) = .int .i64 p.X :: .int .i64 p.Y :: prcells t := rfl
      rw [e, List.drop_succ_cons, ih, show 2 * (k + 1) = 2 * k + 1 + 1 by omega]
      rfl
def HPr (w : World) (v : Value) (l : List Pr) : Prop := Holds w v l.length (prcells l)
theorem HPr.keep {w w' : World} {v : Value} {l : List Pr} (h : HPr w v l) {N : Nat} (hk : Below N w w') (hN : w.heap.size ≤ N) : HPr w' v l := Holds.keep h fun k hk' => hk.block k (by omega)
theorem HPr.at {w : World} {ao : Option Addr} {n c : Nat} {l : List Pr} (h : HPr w (.slice ao n c) l) (h0 : 0 < l.length) : ∃ b off, ao = some ⟨b, off, none⟩ ∧ b < w.heap.size ∧
    ∀ k (hk : k < l.length), w.cell? ⟨b, off + k * 2, none⟩ = some (.int .i64 l[k].X) ∧ w.cell? ⟨b, off + k * 2 + 1, none⟩ = some (.int .i64 l[k].Y) := by
  obtain ⟨b, off, c', hv, hb, hc⟩ := Holds.at h (by rw [prcells_length]; omega)
  cases hv
  refine ⟨b, off, rfl, hb, fun k hk => ?_⟩
  obtain ⟨h1, h2⟩ := prcells_at l k hk
  obtain ⟨l1, e1⟩ := List.getElem?_eq_some_iff.1 h1
  obtain ⟨l2, e2⟩ := List.getElem?_eq_some_iff.1 h2
  have g1 := hc _ l1
  have g2 := hc _ l2
  rw [e1] at g1
  rw [e2] at g2
  rw [show k * 2 = 2 * k by omega, Nat.add_assoc]
  exact ⟨g1, g2⟩
end Go.Proofs.YtgiojkhmkeocfaaDoor

/- Laws for rows of pairs within their block: copy, clear, append with room, parts of a slice. -/
namespace Go.Proofs.YtgiojkhmkeocfaaDoor
open Go.RowKit

/-- cells put over others -/
def spl (cur : List Value) (o : Nat) (cs : List Value) : List Value := cur.take o ++ cs ++ cur.drop (o + cs.length)
theorem spl_length {cur : List Value} {o : Nat} {cs : List Value} (h : o + cs.length ≤ cur.length) : (spl cur o cs).length = cur.length := by
  unfold spl
  simp
  omega
theorem spl_take {cur : List Value} {o : Nat} {cs : List Value} (h : o + cs.length ≤ cur.length) (k : Nat) (hk : k = o + cs.length) : (spl cur o cs).take k = cur.take o ++ cs := by
  unfold spl
  subst hk
  rw [List.take_left' (by simp; omega)]
theorem setRow_grown (w : World) (g : Nat) (cs : Array Value) : w.grownBy (w.setRow g cs) (some g) :=
  ⟨rfl, rfl, rfl, by simp [World.setRow], fun k _ hk => setRow_other w g k cs (fun e => hk (by rw [e]))⟩

theorem wpList_cp {ops : Array Oper} {rest : List Oper} {o : Oper} {a : Act} {Q : Exit → Act → World → Prop} (w : World) (hw : Region.wanted o (yielded ops a.tmps) = true) (d s : Operand) (T T' : TypeId)
    (ho : o.op = .call { callee := .builtin .copy, args := #[d, s], argTypes := #[T, T'] }) (v u : Value) (hd : a.eval d = v) (hs : a.eval s = u) (v' : Value) (w' : World)
    (hr : (Builtin.copy_ #[T, T'] o.type #[v, u]).run Tryd.prog w = .ok v' w') (h : wpList Tryd.prog ops Q rest (a.put o.dst v') w') : wpList Tryd.prog ops Q (o :: rest) a w := by
  refine wpList_step fun K hK => ?_
  rw [if_pos hw]
  unfold Oper.wp
  simp [execOp, ho, resolve, invoke, builtin, hd, hs, hr, Result.andThen]
  exact hK _ _ h
theorem step_cp {ops : Array Oper} {o : Oper} {a : Act} {K : Act → World → Prop} {Q : Exit → Act → World → Prop} {X : Prop} (w : World) (hgd : o.guard = none) (d s : Operand) (T T' : TypeId)
    (ho : o.op = .call { callee := .builtin .copy, args := #[d, s], argTypes := #[T, T'] }) (v u : Value) (hd : a.eval d = v) (hs : a.eval s = u) (v' : Value) (w' : World)
    (hr : (Builtin.copy_ #[T, T'] o.type #[v, u]).run Tryd.prog w = .ok v' w') (h : K (a.put o.dst v') w') : if Region.wanted o (yielded ops a.tmps) = true then Oper.wp Tryd.prog o a w K Q else X := by
  have hw : Region.wanted o (yielded ops a.tmps) = true := by simp [Region.wanted, hgd]
  rw [if_pos hw]
  unfold Oper.wp
  simp [execOp, ho, resolve, invoke, builtin, hd, hs, hr, Result.andThen]
  exact h
theorem wpList_ap {ops : Array Oper} {rest : List Oper} {o : Oper} {a : Act} {Q : Exit → Act → World → Prop} (w : World) (hw : Region.wanted o (yielded ops a.tmps) = true) (d s : Operand) (T T' : TypeId)
    (ho : o.op = .call { callee := .builtin .append, args := #[d, s], argTypes := #[T, T'] }) (v u : Value) (hd : a.eval d = v) (hs : a.eval s = u) (v' : Value) (w' : World)
    (hr : (Builtin.append_ #[T, T'] o.type #[v, u]).run Tryd.prog w = .ok v' w') (h : wpList Tryd.prog ops Q rest (a.put o.dst v') w') : wpList Tryd.prog ops Q (o :: rest) a w := by
  refine wpList_step fun K hK => ?_
  rw [if_pos hw]
  unfold Oper.wp
  simp [execOp, ho, resolve, invoke, builtin, hd, hs, hr, Result.andThen]
  exact hK _ _ h
theorem step_ap {ops : Array Oper} {o : Oper} {a : Act} {K : Act → World → Prop} {Q : Exit → Act → World → Prop} {X : Prop} (w : World) (hgd : o.guard = none) (d s : Operand) (T T' : TypeId)
    (ho : o.op = .call { callee := .builtin .append, args := #[d, s], argTypes := #[T, T'] }) (v u : Value) (hd : a.eval d = v) (hs : a.eval s = u) (v' : Value) (w' : World)
    (hr : (Builtin.append_ #[T, T'] o.type #[v, u]).run Tryd.prog w = .ok v' w') (h : K (a.put o.dst v') w') : if Region.wanted o (yielded ops a.tmps) = true then Oper.wp Tryd.prog o a w K Q else X := by
  have hw : Region.wanted o (yielded ops a.tmps) = true := by simp [Region.wanted, hgd]
  rw [if_pos hw]
  unfold Oper.wp
  simp [execOp, ho, resolve, invoke, builtin, hd, hs, hr, Result.andThen]
  exact h
theorem wpList_cl {ops : Array Oper} {rest : List Oper} {o : Oper} {a : Act} {Q : Exit → Act → World → Prop} (w : World) (hw : Region.wanted o (yielded ops a.tmps) = true) (d : Operand) (T : TypeId)
    (ho : o.op = .call { callee := .builtin .clear, args := #[d], argTypes := #[T] }) (v : Value) (hd : a.eval d = v) (v' : Value) (w' : World)
    (hr : (Builtin.clear_ #[T] o.type #[v]).run Tryd.prog w = .ok v' w') (h : wpList Tryd.prog ops Q rest (a.put o.dst v') w') : wpList Tryd.prog ops Q (o :: rest) a w := by
  refine wpList_step fun K hK => ?_
  rw [if_pos hw]
  unfold Oper.wp
  simp [execOp, ho, resolve, invoke, builtin, hd, hr, Result.andThen]
  exact hK _ _ h

end Go.Proofs.YtgiojkhmkeocfaaDoor

/- Scripts are made: between, Make, walked. -/
namespace Go.Proofs.YtgiojkhmkeocfaaDoor
open Go.RowKit

theorem ret_tuple {a b : Value} (h : a = b) : Ending.returned a = .returned b := by rw [h]
/-- numbers of a run that are small enough for sums -/
def sm (r : Rn) : Prop := 0 ≤ r.a ∧ r.a ≤ 4294967296 ∧ 0 ≤ r.b ∧ r.b ≤ 4294967296 ∧ 0 ≤ r.n ∧ r.n ≤ 4294967296
theorem owns_apart {w w' : World} {base base' : Nat} {e e' : TypeId} {s s' : Nat} {v v' : Value} {n n' : Nat} {xs xs' : List Value} (h : w.ownsRow base e s v n xs) (h' : w.ownsRow base' e' s' v' n' xs') (hne : e ≠ e') (h0 : 0 < n) (hg : w.grownBy w' v'.ownBlock) : w'.ownsRow base e s v n xs := by
  refine h.kept hg (.inr ?_)
  rcases h.2 with ⟨_, h1⟩ | ⟨g, cap, cur, rfl, _, hc, _⟩
  · omega
  · rcases h'.2 with ⟨rfl, _⟩ | ⟨g', cap', cur', rfl, _, hc', _⟩
    · simp [Value.ownBlock]
    · intro e1
      simp only [Value.ownBlock, Option.some.injEq] at e1
      subst e1
      rw [hc] at hc'
      cases hc'
      exact hne rfl

theorem new_holds_at (W : World) (g : Nat) (hg : W.heap.size = g) (cs : Array Value) (e : TypeId) (k c : Nat) (hkc : k ≤ c) : Holds (W.alloc (.cells cs e)) (.slice (some ⟨g, 0, none⟩) k c) k cs.toList := by
  subst hg
  exact new_holds W cs e k c hkc

theorem Right.num {f : Bool} {a b n m : Int} {l : List Ch} (h : Right f a b n m l) : ∀ c ∈ l, numB c = true := by
  induction l generalizing f a b with
  | nil => simp
  | cons c l ih =>
    intro d hd
    rw [List.mem_cons] at hd
    rcases hd with rfl | hd
    · exact h.1.1
    · exact ih h.2 d hd
theorem Vk.lt {nx m : Int} {K : List Int} (h : Vk nx m K) : ∀ z ∈ K, z = -1 ∨ z < m := by
  induction K generalizing nx with
  | nil => simp
  | cons y t ih =>
    intro z hz
    rw [List.mem_cons] at hz
    rcases h with ⟨rfl, h⟩ | ⟨hy, h1, h2, h3⟩
    · rcases hz with rfl | hz
      · exact .inl rfl
      · exact ih h z hz
    · rcases hz with rfl | hz
      · exact .inr h2
      · exact ih h3 z hz
/-- the script that a list of what is kept makes -/
def mkL (K : List Int) (m : Int) : List Ch := betw 0 0 (keptR 0 K ++ [⟨K.length, m, 0⟩])
theorem mk_script {K : List Int} {m : Int} (h : Vk 0 m K) (h0 : 0 ≤ m) (hm : m ≤ 2147483647) (hl : K.length ≤ 1048576) : Script (mkL K m) K.length m ∧ U 0 0 K.length m (mkL K m) = keptR 0 K := by
  have hf := h.fit h0 (i := 0)
  rw [Int.zero_add] at hf
  have := fit_right hf (Int.le_refl _) (Int.le_refl _) (by omega) hm
  exact ⟨⟨by omega, h0, this.1⟩, this.2⟩
theorem kept_sm {K : List Int} {m : Int} (h : Vk 0 m K) (h0 : 0 ≤ m) (hm : m ≤ 2147483647) (hl : K.length ≤ 1048576) : ∀ r ∈ keptR 0 K ++ [⟨K.length, m, 0⟩], sm r := by
  intro r hr
  rw [List.mem_append, List.mem_singleton] at hr
  rcases hr with hr | rfl
  · rw [mem_keptR] at hr
    obtain ⟨h1, h2, h3, h4⟩ := hr
    have hlt := (List.getElem?_eq_some_iff.1 h3).1
    have hz := List.mem_of_getElem? h3
    have := h.each (Int.le_refl _) _ hz
    have := h.lt _ hz
    unfold sm
    omega
  · unfold sm
    dsimp only
    omega
theorem kept_len (i : Int) (K : List Int) : (keptR i K).length ≤ K.length := by
  induction K generalizing i with
  | nil => simp [keptR]
  | cons z t ih =>
    have := ih (i + 1)
    rw [keptR]
    split <;> simp <;> omega

end Go.Proofs.YtgiojkhmkeocfaaDoor

/- How long the longest common row of two rows of numbers is, what is kept, and what follows: plain. -/
namespace Go.Proofs.YtgiojkhmkeocfaaDoor

/-- how long the longest common row is -/
def lc : List Int → List Int → Nat
  | [], _ => 0
  | _ :: _, [] => 0
  | a :: x, b :: y => if a = b then lc x y + 1 else max (lc x (b :: y)) (lc (a :: x) y)
theorem lc_nil_left (y : List Int) : lc [] y = 0 := by rw [lc]
theorem lc_nil_right (x : List Int) : lc x [] = 0 := by cases x <;> rw [lc]
theorem lc_cons (a b : Int) (x y : List Int) : lc (a :: x) (b :: y) = if a = b then lc x y + 1 else max (lc x (b :: y)) (lc (a :: x) y) := by rw [lc]
theorem lc_ex (x y : List Int) : ∃ s : List Int, s.Sublist x ∧ s.Sublist y ∧ s.length = lc x y := by
  induction x generalizing y with
  | nil => exact ⟨[], List.Sublist.refl _, List.nil_sublist _, by rw [lc_nil_left]; rfl⟩
  | cons a x ih =>
    induction y with
    | nil => exact ⟨[], List.nil_sublist _, List.Sublist.refl _, by rw [lc_nil_right]; rfl⟩
    | cons b y ihy =>
      rw [lc_cons]
      by_cases h : a = b
      · subst h
        obtain ⟨s, h1, h2, h3⟩ := ih y
        exact ⟨a :: s, h1.cons_cons a, h2.cons_cons a, by rw [if_pos rfl]; simp [h3]⟩
      · rw [if_neg h]
        obtain ⟨s, h1, h2, h3⟩ := ih (b :: y)
        obtain ⟨t, k1, k2, k3⟩ := ihy
        by_cases hm : lc x (b :: y) ≤ lc (a :: x) y
        · exact ⟨t, k1, k2.cons b, by omega⟩
        · exact ⟨s, h1.cons a, h2, by omega⟩
theorem lc_le (s x y : List Int) (hx : s.Sublist x) (hy : s.Sublist y) : s.length ≤ lc x y := by
  induction x generalizing y s with
  | nil => rw [List.sublist_nil.1 hx]; simp
  | cons a x ih =>
    induction y generalizing s with
    | nil => rw [List.sublist_nil.1 hy]; simp
    | cons b y ihy =>
      rw [lc_cons]
      by_cases h : a = b
      · subst h
        rw [if_pos rfl]
        cases hx with
        | cons _ hx =>
          cases hy with
          | cons _ hy => have := ih s y hx hy; omega
          | cons_cons _ hy =>
            rename_i s
            have := ih s y ((List.sublist_cons_self a s).trans hx) hy
            simp; omega
        | cons_cons _ hx =>
          rename_i s
          have : s.Sublist y := by
            cases hy with
            | cons _ hy => exact (List.sublist_cons_self a s).trans hy
            | cons_cons _ hy => exact hy
          have := ih s y hx this
          simp; omega
      · rw [if_neg h]
        cases hx with
        | cons _ hx => have := ih s (b :: y) hx hy; omega
        | cons_cons _ hx =>
          rename_i s
          cases hy with
          | cons _ hy => have := ihy (a :: s) (hx.cons_cons a) hy; omega
          | cons_cons _ hy => exact absurd rfl h
theorem lc_left (x y : List Int) : lc x y ≤ x.length := by
  obtain ⟨s, h1, _, h3⟩ := lc_ex x y
  rw [← h3]; exact h1.length_le
theorem lc_right (x y : List Int) : lc x y ≤ y.length := by
  obtain ⟨s, _, h2, h3⟩ := lc_ex x y
  rw [← h3]; exact h2.length_le
theorem lc_of {x y x' y' : List Int} (h : ∀ s : List Int, s.Sublist x → s.Sublist y → ∃ t : List Int, t.Sublist x' ∧ t.Sublist y' ∧ s.length ≤ t.length) : lc x y ≤ lc x' y' := by
  obtain ⟨s, h1, h2, h3⟩ := lc_ex x y
  obtain ⟨t, k1, k2, k3⟩ := h s h1 h2
  have := lc_le t x' y' k1 k2
  omega
theorem lc_comm (x y : List Int) : lc x y = lc y x := Nat.le_antisymm (lc_of fun s a b => ⟨s, b, a, Nat.le_refl _⟩) (lc_of fun s a b => ⟨s, b, a, Nat.le_refl _⟩)
theorem lc_rev (x y : List Int) : lc x.reverse y.reverse = lc x y := by
  refine Nat.le_antisymm (lc_of fun s a b => ⟨s.reverse, ?_, ?_, by simp⟩) (lc_of fun s a b => ⟨s.reverse, List.reverse_sublist.2 a, List.reverse_sublist.2 b, by simp⟩)
  · have := List.reverse_sublist.2 a; rwa [List.reverse_reverse] at this
  · have := List.reverse_sublist.2 b; rwa [List.reverse_reverse] at this
theorem lc_self (x : List Int) : lc x x = x.length := Nat.le_antisymm (lc_left x x) (lc_le x x x (List.Sublist.refl _) (List.Sublist.refl _))
theorem lc_ahead (c : Int) (x y : List Int) : lc (c :: x) (c :: y) = lc x y + 1 := by rw [lc_cons, if_pos rfl]
theorem lc_mono {x x' y y' : List Int} (hx : x.Sublist x') (hy : y.Sublist y') : lc x y ≤ lc x' y' := lc_of fun s a b => ⟨s, a.trans hx, b.trans hy, Nat.le_refl _⟩
/-- a line more -/
theorem lc_more (p q y : List Int) (c : Int) : lc (p ++ q) y ≤ lc (p ++ c :: q) y ∧ lc (p ++ c :: q) y ≤ lc (p ++ q) y + 1 := by
  refine ⟨lc_mono ((List.Sublist.refl p).append (List.sublist_cons_self c q)) (List.Sublist.refl y), ?_⟩
  obtain ⟨s, h1, h2, h3⟩ := lc_ex (p ++ c :: q) y
  obtain ⟨s1, s2, rfl, k1, k2⟩ := List.sublist_append_iff.1 h1
  cases k2 with
  | cons _ k2 =>
    have := lc_le (s1 ++ s2) (p ++ q) y (k1.append k2) h2
    omega
  | cons_cons _ k2 =>
    rename_i s2
    have := lc_le (s1 ++ s2) (p ++ q) y (k1.append k2) (((List.Sublist.refl s1).append (List.sublist_cons_self c s2)).trans h2)
    simp at h3 this
    omega
/-- rows behind both -/
theorem lc_behind (x y u v : List Int) : lc x y + lc u v ≤ lc (x ++ u) (y ++ v) := by
  obtain ⟨s, h1, h2, h3⟩ := lc_ex x y
  obtain ⟨t, k1, k2, k3⟩ := lc_ex u v
  have := lc_le (s ++ t) (x ++ u) (y ++ v) (h1.append k1) (h2.append k2)
  simp at this
  omega
theorem lc_all (x y : List Int) : lc x y = x.length ↔ x.Sublist y := by
  constructor
  · intro h
    obtain ⟨s, h1, h2, h3⟩ := lc_ex x y
    have : s = x := h1.eq_of_length (by omega)
    rwa [← this]
  · intro h
    exact Nat.le_antisymm (lc_left x y) (lc_le x x y (List.Sublist.refl _) h)
/-- how much of x is found in y, going through y once -/
def gr : List Int → List Int → Nat
  | [], _ => 0
  | _ :: _, [] => 0
  | a :: x, b :: y => if a = b then gr x y + 1 else gr (a :: x) y
theorem gr_le (x y : List Int) : gr x y ≤ x.length := by
  induction y generalizing x with
  | nil => cases x <;> simp [gr]
  | cons b y ih =>
    cases x with
    | nil => simp [gr]
    | cons a x =>
      rw [gr]
      split
      · have := ih x; simp; omega
      · exact ih (a :: x)
theorem gr_all (x y : List Int) : gr x y = x.length ↔ x.Sublist y := by
  induction y generalizing x with
  | nil => cases x <;> simp [gr]
  | cons b y ih =>
    cases x with
    | nil => simp [gr]
    | cons a x =>
      rw [gr]
      by_cases h : a = b
      · subst h
        rw [if_pos rfl]
        have := ih x
        rw [List.cons_sublist_cons, ← this]
        simp
      · rw [if_neg h, ih (a :: x)]
        constructor
        · exact fun h => h.cons b
        · intro k
          cases k with
          | cons _ k => exact k
          | cons_cons _ k => exact absurd rfl h

/-- what is kept: with which of y's members, numbered from b on, each of x's makes a pair -/
def kp (b : Int) : List Int → List Int → List Int
  | [], _ => []
  | _ :: x, [] => -1 :: kp b x []
  | a :: x, c :: y => if a = c then b :: kp (b + 1) x y else if lc (a :: x) y ≤ lc x (c :: y) then -1 :: kp b x (c :: y) else kp (b + 1) (a :: x) y
theorem kp_nil (b : Int) (y : List Int) : kp b [] y = [] := by rw [kp]
theorem kp_none (b : Int) (x : List Int) : kp b x [] = List.replicate x.length (-1) := by
  induction x with
  | nil => rw [kp]; rfl
  | cons a x ih => rw [kp, ih]; rfl
theorem kp_cons (b a c : Int) (x y : List Int) : kp b (a :: x) (c :: y) = if a = c then b :: kp (b + 1) x y else if lc (a :: x) y ≤ lc x (c :: y) then -1 :: kp b x (c :: y) else kp (b + 1) (a :: x) y := by rw [kp]
theorem kp_length (b : Int) (x y : List Int) : (kp b x y).length = x.length := by
  induction x generalizing y b with
  | nil => rw [kp_nil]
  | cons a x ih =>
    induction y generalizing b with
    | nil => rw [kp_none]; simp
    | cons c y ihy =>
      rw [kp_cons]
      split
      · simp [ih]
      split
      · simp [ih]
      · exact ihy _
theorem Vk.up {a b m : Int} {K : List Int} (h : Vk b m K) (hab : a ≤ b) : Vk a m K := by
  induction K with
  | nil => trivial
  | cons z t ih =>
    rcases h with ⟨h1, h2⟩ | ⟨h1, h2, h3⟩
    · exact .inl ⟨h1, ih h2⟩
    · exact .inr ⟨h1, by omega, h3⟩
theorem Vk.none (b m : Int) (k : Nat) : Vk b m (List.replicate k (-1)) := by
  induction k with
  | zero => trivial
  | succ k ih => exact .inl ⟨rfl, ih⟩
theorem kp_vk (b : Int) (x y : List Int) (hb : 0 ≤ b) : Vk b (b + y.length) (kp b x y) := by
  induction x generalizing y b with
  | nil => rw [kp_nil]; trivial
  | cons a x ih =>
    induction y generalizing b with
    | nil => rw [kp_none]; exact Vk.none _ _ _
    | cons c y ihy =>
      rw [kp_cons]
      split
      · refine .inr ⟨by omega, by omega, by simp; omega, ?_⟩
        have := ih (b + 1) y (by omega)
        rw [show b + ((c :: y).length : Int) = b + 1 + (y.length : Int) by simp; omega]
        exact this
      split
      · exact .inl ⟨rfl, ih b (c :: y) hb⟩
      · have := ihy (b + 1) (by omega)
        rw [show b + ((c :: y).length : Int) = b + 1 + (y.length : Int) by simp; omega]
        exact this.up (by omega)
/-- how many pairs a list of what is kept holds -/
def prs (K : List Int) : Nat := (K.filter fun z => decide (0 ≤ z)).length
theorem prs_kp (b : Int) (x y : List Int) (hb : 0 ≤ b) : prs (kp b x y) = lc x y := by
  induction x generalizing y b with
  | nil => rw [kp_nil, lc_nil_left]; rfl
  | cons a x ih =>
    induction y generalizing b with
    | nil =>
      rw [kp_none, lc_nil_right]
      simp [prs]
    | cons c y ihy =>
      rw [kp_cons, lc_cons]
      by_cases h : a = c
      · rw [if_pos h, if_pos h, ← ih (b + 1) y (by omega)]
        simp [prs, hb]
      · rw [if_neg h, if_neg h]
        split
        · have := ih b (c :: y) hb
          rw [show prs (-1 :: kp b x (c :: y)) = prs (kp b x (c :: y)) by simp [prs], this]
          omega
        · rw [ihy (b + 1) (by omega)]
          omega
/-- what is kept is the same -/
theorem kp_same (b : Int) (x y : List Int) (hb : 0 ≤ b) (i : Nat) (z : Int) (h : (kp b x y)[i]? = some z) (hz : 0 ≤ z) : b ≤ z ∧ ∃ c, x[i]? = some c ∧ y[(z - b).toNat]? = some c := by
  induction x generalizing y b i with
  | nil => rw [kp_nil] at h; simp at h
  | cons a x ih =>
    induction y generalizing b i with
    | nil =>
      rw [kp_none] at h
      have := List.eq_of_mem_replicate (List.mem_of_getElem? h)
      omega
    | cons c y ihy =>
      rw [kp_cons] at h
      by_cases e : a = c
      · subst e
        rw [if_pos rfl] at h
        cases i with
        | zero =>
          simp at h
          subst h
          exact ⟨Int.le_refl _, a, by simp, by simp⟩
        | succ i =>
          obtain ⟨h1, d, h2, h3⟩ := ih (b + 1) y (by omega) i (by simpa using h)
          refine ⟨by omega, d, by simpa using h2, ?_⟩
          rw [show (z - b).toNat = (z - (b + 1)).toNat + 1 by omega]
          simpa using h3
      · rw [if_neg e] at h
        split at h
        · cases i with
          | zero => simp at h; omega
          | succ i =>
            obtain ⟨h1, d, h2, h3⟩ := ih b (c :: y) hb i (by simpa using h)
            exact ⟨h1, d, by simpa using h2, h3⟩
        · obtain ⟨h1, d, h2, h3⟩ := ihy (b + 1) (by omega) i h
          refine ⟨by omega, d, h2, ?_⟩
          rw [show (z - b).toNat = (z - (b + 1)).toNat + 1 by omega]
          simpa using h3
/-- how many members are the same at the front -/
def fr : List Int → List Int → Nat
  | a :: x, b :: y => if a = b then fr x y + 1 else 0
  | _, _ => 0
theorem fr_le (x y : List Int) : fr x y ≤ x.length ∧ fr x y ≤ y.length := by
  induction x generalizing y with
  | nil => simp [fr]
  | cons a x ih =>
    cases y with
    | nil => simp [fr]
    | cons b y =>
      have := ih y
      rw [fr]
      split <;> simp <;> omega
theorem fr_lc (x y : List Int) : fr x y + lc (x.drop (fr x y)) (y.drop (fr x y)) = lc x y := by
  induction x generalizing y with
  | nil => simp [fr, lc_nil_left]
  | cons a x ih =>
    cases y with
    | nil => simp [fr, lc_nil_right]
    | cons b y =>
      have := ih y
      rw [fr]
      split
      · rename_i h
        subst h
        rw [lc_ahead]
        simp
        omega
      · simp
theorem fr_at (x y : List Int) (i : Nat) (h : i < fr x y) : x[i]? = y[i]? := by
  induction x generalizing y i with
  | nil => simp [fr] at h
  | cons a x ih =>
    cases y with
    | nil => simp [fr] at h
    | cons b y =>
      rw [fr] at h
      split at h
      · rename_i e
        subst e
        cases i with
        | zero => simp
        | succ i => simpa using ih y i (by omega)
      · omega
theorem fr_step (x y : List Int) (i : Nat) (hx : i < x.length) (hy : i < y.length) : fr (x.drop i) (y.drop i) = if x[i] = y[i] then fr (x.drop (i + 1)) (y.drop (i + 1)) + 1 else 0 := by
  rw [List.drop_eq_getElem_cons hx, List.drop_eq_getElem_cons hy, fr]
/-- a length of two places -/
def ln (x y : List Int) (i j : Nat) : Nat := lc (x.drop i) (y.drop j)
theorem ln_end (x y : List Int) (i j : Nat) (h : x.length ≤ i ∨ y.length ≤ j) : ln x y i j = 0 := by
  rcases h with h | h
  · rw [ln, List.drop_of_length_le h, lc_nil_left]
  · rw [ln, List.drop_of_length_le h, lc_nil_right]
theorem ln_step (x y : List Int) (i j : Nat) (hx : i < x.length) (hy : j < y.length) : ln x y i j = if x[i] = y[j] then ln x y (i + 1) (j + 1) + 1 else max (ln x y (i + 1) j) (ln x y i (j + 1)) := by
  unfold ln
  rw [List.drop_eq_getElem_cons hx, List.drop_eq_getElem_cons hy, lc_cons]
theorem ln_le (x y : List Int) (i j : Nat) : ln x y i j ≤ x.length := by
  have := lc_left (x.drop i) (y.drop j)
  simp at this
  unfold ln
  omega
theorem ln_zero (x y : List Int) : ln x y 0 0 = lc x y := rfl
theorem kp_step (b : Int) (x y : List Int) (i j : Nat) (hx : i < x.length) (hy : j < y.length) : kp b (x.drop i) (y.drop j) = if x[i] = y[j] then b :: kp (b + 1) (x.drop (i + 1)) (y.drop (j + 1)) else if ln x y i (j + 1) ≤ ln x y (i + 1) j then -1 :: kp b (x.drop (i + 1)) (y.drop j) else kp (b + 1) (x.drop i) (y.drop (j + 1)) := by
  unfold ln
  rw [List.drop_eq_getElem_cons hx, List.drop_eq_getElem_cons hy, kp_cons]
theorem kp_same_front (b : Int) (x y : List Int) (i : Nat) (h : i < fr x y) : kp b (x.drop i) (y.drop i) = b :: kp (b + 1) (x.drop (i + 1)) (y.drop (i + 1)) := by
  have h1 := fr_le x y
  rw [kp_step b x y i i (by omega) (by omega), if_pos]
  have := fr_at x y i h
  rw [List.getElem?_eq_getElem (by omega), List.getElem?_eq_getElem (by omega)] at this
  simpa using this
end Go.Proofs.YtgiojkhmkeocfaaDoor

/- The table of lengths: row, at, measure, walked. -/
namespace Go.Proofs.YtgiojkhmkeocfaaDoor
open Go.RowKit

/-- a table as a value -/
def tabV (W g N : Nat) : Value := .agg #[.int .i64 (W : Int), .slice (some ⟨g, 0, none⟩) N N]
end Go.Proofs.YtgiojkhmkeocfaaDoor

/- The table of lengths is filled: measure, walked. -/
namespace Go.Proofs.YtgiojkhmkeocfaaDoor
open Go.RowKit

theorem idx_inj {W i j i' j' : Nat} (hj : j < W) (hj' : j' < W) (h : i * W + j = i' * W + j') : i = i' ∧ j = j' := by
  have h1 : (i * W + j) / W = i := by rw [Nat.mul_comm, Nat.mul_add_div (by omega), Nat.div_eq_of_lt hj, Nat.add_zero]
  have h2 : (i' * W + j') / W = i' := by rw [Nat.mul_comm, Nat.mul_add_div (by omega), Nat.div_eq_of_lt hj', Nat.add_zero]
  have h3 : i = i' := by rw [← h1, ← h2, h]
  subst h3
  exact ⟨rfl, by omega⟩
theorem idx_lt {W i j n : Nat} (hj : j < W) (hi : i ≤ n) : i * W + j < (n + 1) * W := by
  have : i * W ≤ n * W := Nat.mul_le_mul_right _ hi
  rw [Nat.succ_mul]
  omega
/-- which lengths stand in the table: those of the rows below row k, and of row k from place c on -/
def Done (x y : List Int) (k c : Nat) (Y : List Value) : Prop := ∀ i j, i ≤ x.length → j ≤ y.length → (k < i ∨ (i = k ∧ c ≤ j) ∨ j = y.length) → Y[i * (y.length + 1) + j]? = some (.int .i16 ((ln x y i j : Nat) : Int))
theorem Done.start (x y : List Int) (N : Nat) (hN : N = (x.length + 1) * (y.length + 1)) : Done x y x.length 0 (List.replicate N (.int .i16 0)) := by
  intro i j hi hj h
  rw [ln_end x y i j (by omega), List.getElem?_replicate, if_pos (by rw [hN]; exact idx_lt (by omega) hi)]
  rfl
theorem Done.next {x y : List Int} {i : Nat} {Y : List Value} (h : Done x y (i + 1) 0 Y) : Done x y i y.length Y := by
  intro i' j' hi hj hc
  exact h i' j' hi hj (by omega)
theorem Done.set {x y : List Int} {i j : Nat} {Y : List Value} (h : Done x y i (j + 1) Y) (hi : i ≤ x.length) (hj : j < y.length) (hY : Y.length = (x.length + 1) * (y.length + 1)) (p : Nat) (hp : p = i * (y.length + 1) + j) (v : Int) (hv : v = ((ln x y i j : Nat) : Int)) : Done x y i j (Y.set p (.int .i16 v)) := by
  intro i' j' hi' hj' hc
  subst hp hv
  by_cases e : i' * (y.length + 1) + j' = i * (y.length + 1) + j
  · obtain ⟨rfl, rfl⟩ := idx_inj (by omega) (by omega) e
    rw [List.getElem?_set_self]
    rw [hY]
    exact idx_lt (by omega) hi
  · rw [List.getElem?_set_ne (fun h => e h.symm)]
    refine h i' j' hi' hj' ?_
    rcases hc with hc | ⟨rfl, hc⟩ | hc
    · exact .inl hc
    · exact .inr (.inl ⟨rfl, by by_cases q : j' = j; · subst q; exact absurd rfl e
                                · omega⟩)
    · exact .inr (.inr hc)
theorem made16 (N : Nat) : (madeCells #[.int .i16 0] N).toList = List.replicate N (.int .i16 0) := by
  apply List.ext_getElem
  · simp [madeCells]
  · intro i h1 h2
    simp [madeCells, Nat.mod_one]

theorem set_fst {W : World} {b : Nat} {t : TypeId} {a0 a1 : Value} (h : W.heap[b]? = some (Obj.cells #[a0, a1] t (0, 0))) (v : Value) : (W.setCell ⟨b, 0, none⟩ v).heap[b]? = some (Obj.cells #[v, a1] t (0, 0)) := by
  obtain ⟨hlt, hk⟩ := Array.getElem?_eq_some_iff.1 h
  show (W.heap.modify b _)[b]? = _
  rw [Array.getElem?_eq_getElem (by rw [Array.size_modify]; exact hlt), Array.getElem_modify_self, hk]
  rfl
theorem set_snd {W : World} {b : Nat} {t : TypeId} {a0 a1 : Value} (h : W.heap[b]? = some (Obj.cells #[a0, a1] t (0, 0))) (v : Value) : (W.setCell ⟨b, 1, none⟩ v).heap[b]? = some (Obj.cells #[a0, v] t (0, 0)) := by
  obtain ⟨hlt, hk⟩ := Array.getElem?_eq_some_iff.1 h
  show (W.heap.modify b _)[b]? = _
  rw [Array.getElem?_eq_getElem (by rw [Array.size_modify]; exact hlt), Array.getElem_modify_self, hk]
  rfl
theorem grownBy_set1 (W : World) (b : Nat) (v : Value) : W.grownBy (W.setCell ⟨b, 1, none⟩ v) (some b) :=
  ⟨rfl, rfl, rfl, by show W.heap.size ≤ (W.heap.modify b _).size; simp, fun i hi hne => by
    show (W.heap.modify b _)[i]? = _
    rw [Array.getElem?_modify, if_neg (fun e => hne (by rw [e]))]⟩
end Go.Proofs.YtgiojkhmkeocfaaDoor

/- How much is the same at the front; Length: front, tooLong, Length, walked. -/
namespace Go.Proofs.YtgiojkhmkeocfaaDoor
open Go.RowKit

end Go.Proofs.YtgiojkhmkeocfaaDoor

/- Length, walked. -/
namespace Go.Proofs.YtgiojkhmkeocfaaDoor
open Go.RowKit
attribute [local simp] low_drew

theorem low_refl (W : World) : Low W W := Below.refl _ _
theorem Low.then {W w w' : World} (h : Low W w) (hb : Below w.heap.size w w') : Low W w' := Below.trans h (hb.mono (Below.size h))
end Go.Proofs.YtgiojkhmkeocfaaDoor

/- A row of one number, again and again: bits.Mul, slices.Repeat, walked. -/
namespace Go.Proofs.YtgiojkhmkeocfaaDoor
open Go.RowKit
attribute [local simp] low_drew

theorem madeI (N : Nat) : madeCells #[.int .i64 0] N = (List.replicate N (Value.int .i64 0)).toArray := by
  apply Array.toList_inj.1
  apply List.ext_getElem
  · simp [madeCells]
  · intro i h1 h2
    simp [madeCells, Nat.mod_one]
theorem size1 : (Tryd.prog.info? 3).map (·.size) = some 1 := by kernel_rfl
/-- a row whose first k cells are -1 -/
def Ones (cur : List Value) (N k : Nat) : Prop := cur.length = N ∧ cur.take k = icells (List.replicate k (-1))
theorem Ones.more {cur : List Value} {N k d : Nat} (h : Ones cur N k) (hk : k + d ≤ N) : Ones (splice cur k (icells (List.replicate d (-1)))) N (k + d) := by
  refine ⟨?_, ?_⟩
  · rw [length_splice _ _ _ (by rw [icells_length, h.1]; simpa using hk), h.1]
  · have h1 : (cur.take k).length = k := by rw [List.length_take, h.1]; omega
    rw [splice, ← List.append_assoc, List.take_left' (by rw [List.length_append, h1, icells_length, List.length_replicate]), h.2, ← icells_append, List.replicate_append_replicate]
theorem Ones.cell {cur : List Value} {N k : Nat} (h : Ones cur N k) (j : Nat) (hj : j < k) : cur[j]? = some (.int .i64 (-1)) := by
  have : (cur.take k)[j]? = some (.int .i64 (-1)) := by rw [h.2]; simp [icells, hj]
  rw [List.getElem?_take] at this
  simpa [hj] using this

end Go.Proofs.YtgiojkhmkeocfaaDoor

/- What the least edit script keeps: kept, walked. -/
namespace Go.Proofs.YtgiojkhmkeocfaaDoor
open Go.RowKit

/-- how far what is kept is written down: the first a members, b of y's behind them; X and Y are left -/
def Pt (K Z : List Int) (n a : Nat) (b : Int) (X Y : List Int) : Prop := ∃ P : List Int, P.length = a ∧ a ≤ n ∧ Z = P ++ List.replicate (n - a) (-1) ∧ P ++ kp b X Y = K
theorem Pt.start (x y : List Int) : Pt (kp 0 x y) (List.replicate x.length (-1)) x.length 0 0 x y := ⟨[], rfl, Nat.zero_le _, by simp, by simp⟩
theorem Pt.len {K Z : List Int} {n a : Nat} {b : Int} {X Y : List Int} (h : Pt K Z n a b X Y) : Z.length = n := by
  obtain ⟨P, h1, h2, h3, _⟩ := h
  rw [h3, List.length_append, h1, List.length_replicate]
  omega
theorem Pt.pair {K Z : List Int} {n a : Nat} {b : Int} {X Y X' Y' : List Int} (h : Pt K Z n a b X Y) (hn : a < n) (hk : kp b X Y = b :: kp (b + 1) X' Y') : Pt K (Z.set a b) n (a + 1) (b + 1) X' Y' := by
  obtain ⟨P, h1, h2, h3, h4⟩ := h
  refine ⟨P ++ [b], by simp [h1], hn, ?_, by rw [← h4, hk]; simp⟩
  rw [h3, show n - a = (n - (a + 1)) + 1 by omega, List.replicate_succ, List.set_append_right _ _ (by omega), h1]
  simp
theorem Pt.out {K Z : List Int} {n a : Nat} {b : Int} {X Y X' : List Int} (h : Pt K Z n a b X Y) (hn : a < n) (hk : kp b X Y = -1 :: kp b X' Y) : Pt K Z n (a + 1) b X' Y := by
  obtain ⟨P, h1, h2, h3, h4⟩ := h
  refine ⟨P ++ [-1], by simp [h1], hn, ?_, by rw [← h4, hk]; simp⟩
  rw [h3, show n - a = (n - (a + 1)) + 1 by omega, List.replicate_succ]
  simp
theorem Pt.skip {K Z : List Int} {n a : Nat} {b : Int} {X Y Y' : List Int} (h : Pt K Z n a b X Y) (hk : kp b X Y = kp (b + 1) X Y') : Pt K Z n a (b + 1) X Y' := by
  obtain ⟨P, h1, h2, h3, h4⟩ := h
  exact ⟨P, h1, h2, h3, by rw [← h4, hk]⟩
theorem Pt.done {K Z : List Int} {n a : Nat} {b : Int} {X Y : List Int} (h : Pt K Z n a b X Y) (hX : X.length = n - a) (he : X = [] ∨ Y = []) : Z = K := by
  obtain ⟨P, h1, h2, h3, h4⟩ := h
  rcases he with rfl | rfl
  · rw [kp_nil, List.append_nil] at h4
    simp at hX
    rw [h3, ← hX, ← h4]
    simp
  · rw [kp_none, hX] at h4
    rw [h3, h4]

section
variable {w : World} {g gt bx n M N : Nat} {Z : List Int} {T : List Value} {wr : World}
theorem own_at {base : Nat} {e : TypeId} {s : Nat} {g n c : Nat} {xs : List Value} (h : wr.ownsRow base e s (.slice (some ⟨g, 0, none⟩) n c) n xs) : base ≤ g ∧ ∃ cur, wr.heap[g]? = some (.cells cur e (0, 0)) := by
  rcases h.2 with ⟨h, _⟩ | ⟨g', cap, cur, h, hb, hc, _⟩
  · cases h
  · cases h
    exact ⟨hb, cur, hc⟩
end
end Go.Proofs.YtgiojkhmkeocfaaDoor

/- What the least edit script keeps: kept, walked (the walk itself). -/
namespace Go.Proofs.YtgiojkhmkeocfaaDoor
open Go.RowKit
end Go.Proofs.YtgiojkhmkeocfaaDoor

/- Diff and the law's own test works, walked. -/
namespace Go.Proofs.YtgiojkhmkeocfaaDoor
open Go.RowKit

theorem two_rows (W : World) (cs ds : Array Value) (n m g : Nat) (hg : W.heap.size + 1 = g) (X Y : List Int) (hX : cs.toList = icells X) (hY : ds.toList = icells Y) (hn : n = X.length) (hm : m = Y.length) :
    HI ((W.alloc (.cells cs 3)).alloc (.cells ds 3)) (.slice (some ⟨W.heap.size, 0, none⟩) n n) X ∧ HI ((W.alloc (.cells cs 3)).alloc (.cells ds 3)) (.slice (some ⟨g, 0, none⟩) m m) Y ∧ Below W.heap.size W ((W.alloc (.cells cs 3)).alloc (.cells ds 3)) := by
  subst hn hm
  refine ⟨?_, ?_, ((Below.refl _ W).alloc (Nat.le_refl _) _).alloc (by simp) _⟩
  · have h : HI (W.alloc (.cells cs 3)) (.slice (some ⟨W.heap.size, 0, none⟩) X.length X.length) X := by
      have := new_holds W cs 3 X.length X.length (Nat.le_refl _)
      rw [hX] at this
      exact this
    exact HI.keep h ((Below.refl _ _).alloc (Nat.le_refl _) _) (Nat.le_refl _)
  · have := new_holds_at (W.alloc (.cells cs 3)) g (by rw [World.size_alloc]; exact hg) ds 3 Y.length Y.length (Nat.le_refl _)
    rw [hY] at this
    exact this

end Go.Proofs.YtgiojkhmkeocfaaDoor

/- A script that is made of what is kept keeps it: plain. -/
namespace Go.Proofs.YtgiojkhmkeocfaaDoor

theorem Right.many {f : Bool} {a b n m : Int} {l : List Ch} (h : Right f a b n m l) : (l.length : Int) ≤ (n - a) + (m - b) := by
  induction l generalizing f a b with
  | nil => have := h.le; simp; omega
  | cons c l ih =>
    obtain ⟨⟨h1, h2, h3, h4⟩, h5⟩ := h
    rw [numB_iff] at h1
    have := ih h5
    simp only [List.length_cons]
    omega
/-- a script that is made of what is kept keeps it -/
theorem keep_mk {K : List Int} {m : Int} (h : Vk 0 m K) (h0 : 0 ≤ m) (hm : m ≤ 2147483647) (hl : K.length ≤ 1048576) : Script (mkL K m) K.length m ∧ keepL (mkL K m) K.length m = K ∧ ((mkL K m).length : Int) ≤ K.length + m := by
  obtain ⟨hS, hU⟩ := mk_script h h0 hm hl
  refine ⟨hS, ?_, ?_⟩
  · have e : keepL (mkL K m) K.length m = kr 0 0 K.length m (mkL K m) := rfl
    rw [e]
    refine kept_inj (i := 0) ?_ ?_
    · rw [kr_length hS.2.2]; omega
    · rw [kr_kept hS.2.2 (Int.le_refl _), hU]
  · have := hS.2.2.many
    omega
end Go.Proofs.YtgiojkhmkeocfaaDoor

/- Pieces of two rows of classes, and what of them is kept, whatever an engine does with the middle: plain. -/
namespace Go.Proofs.YtgiojkhmkeocfaaDoor

/-- x from a up to b -/
def sub (x : List Int) (a b : Nat) : List Int := (x.drop a).take (b - a)
theorem sub_length (x : List Int) (a b : Nat) (hb : b ≤ x.length) : (sub x a b).length = b - a := by
  unfold sub
  rw [List.length_take, List.length_drop]
  omega
/-- how many are the same at the front of two pieces -/
def tfN (x y : List Int) : Nat → Nat → Nat → Nat
  | 0, _, _ => 0
  | n + 1, a, c => if x[a]? = y[c]? then tfN x y n (a + 1) (c + 1) + 1 else 0
def tf (x y : List Int) (a b c d : Nat) : Nat := tfN x y (min (b - a) (d - c)) a c
theorem tf_eq (x y : List Int) (a b c d : Nat) : tf x y a b c d = if a < b ∧ c < d ∧ x[a]? = y[c]? then tf x y (a + 1) b (c + 1) d + 1 else 0 := by
  unfold tf
  by_cases h : a < b ∧ c < d
  · rw [show min (b - a) (d - c) = min (b - (a + 1)) (d - (c + 1)) + 1 by omega, tfN]
    by_cases e : x[a]? = y[c]?
    · rw [if_pos e, if_pos ⟨h.1, h.2, e⟩]
    · rw [if_neg e, if_neg (fun q => e q.2.2)]
  · rw [show min (b - a) (d - c) = 0 by omega, tfN, if_neg (fun q => h ⟨q.1, q.2.1⟩)]
/-- at the end -/
def tb (x y : List Int) (a b c d : Nat) : Nat := if a < b ∧ c < d ∧ x[b - 1]? = y[d - 1]? then tb x y a (b - 1) c (d - 1) + 1 else 0
theorem tf_le (x y : List Int) (a b c d : Nat) : tf x y a b c d ≤ b - a ∧ tf x y a b c d ≤ d - c := by
  induction h : b - a generalizing a c with
  | zero => rw [tf_eq, if_neg (by omega)]; omega
  | succ n ih =>
    rw [tf_eq]
    split
    · have := ih (a + 1) (c + 1) (by omega)
      omega
    · omega
theorem tb_le (x y : List Int) (a b c d : Nat) : tb x y a b c d ≤ b - a ∧ tb x y a b c d ≤ d - c := by
  induction h : b - a generalizing b d with
  | zero => rw [tb, if_neg (by omega)]; omega
  | succ n ih =>
    rw [tb]
    split
    · have := ih (b - 1) (d - 1) (by omega)
      omega
    · omega
/-- the pairs at the front, at the end -/
def fp (a c : Nat) : Nat → List Pr
  | 0 => []
  | k + 1 => ⟨a, c⟩ :: fp (a + 1) (c + 1) k
def bp (b d : Nat) : Nat → List Pr
  | 0 => []
  | k + 1 => ⟨(b - 1 : Nat), (d - 1 : Nat)⟩ :: bp (b - 1) (d - 1) k
/-- within these bounds -/
def Wn (a b c d : Nat) (p : Pr) : Prop := (a : Int) ≤ p.X ∧ p.X < b ∧ (c : Int) ≤ p.Y ∧ p.Y < d
theorem fp_wn (a c k : Nat) : ∀ p ∈ fp a c k, Wn a (a + k) c (c + k) p := by
  induction k generalizing a c with
  | zero => intro p hp; simp [fp] at hp
  | succ k ih =>
    intro p hp
    rw [fp] at hp
    rcases List.mem_cons.1 hp with rfl | hp
    · exact ⟨by simp, by simp; omega, by simp, by simp; omega⟩
    · have := ih (a + 1) (c + 1) p hp
      unfold Wn at this ⊢
      omega
theorem bp_wn (b d k : Nat) (hb : k ≤ b) (hd : k ≤ d) : ∀ p ∈ bp b d k, Wn (b - k) b (d - k) d p := by
  induction k generalizing b d with
  | zero => intro p hp; simp [bp] at hp
  | succ k ih =>
    intro p hp
    rw [bp] at hp
    rcases List.mem_cons.1 hp with rfl | hp
    · unfold Wn
      dsimp only
      omega
    · have := ih (b - 1) (d - 1) (by omega) (by omega) p hp
      unfold Wn at this ⊢
      omega
/-- what the least script keeps, from place a on, c further on -/
def lp (a c : Int) : List Int → List Pr
  | [] => []
  | j :: K => (if j = -1 then [] else [⟨a, c + j⟩]) ++ lp (a + 1) c K
/-- both ends, and the middle by N -/
def ends (x y : List Int) (N : Nat → Nat → Nat → Nat → List Pr) (a b c d : Nat) : List Pr :=
  fp a c (tf x y a b c d) ++ (bp b d (tb x y (a + tf x y a b c d) b (c + tf x y a b c d) d) ++
    (if a + tf x y a b c d < b - tb x y (a + tf x y a b c d) b (c + tf x y a b c d) d ∧ c + tf x y a b c d < d - tb x y (a + tf x y a b c d) b (c + tf x y a b c d) d then
      N (a + tf x y a b c d) (b - tb x y (a + tf x y a b c d) b (c + tf x y a b c d) d) (c + tf x y a b c d) (d - tb x y (a + tf x y a b c d) b (c + tf x y a b c d) d)
    else []))
/-- what is kept of two pieces, by an engine M -/
def pcs (M : (Nat → Nat → Nat → Nat → List Pr) → Nat → Nat → Nat → Nat → List Pr) (x y : List Int) : Nat → Nat → Nat → Nat → Nat → List Pr
  | 0, _, _, _, _ => []
  | f + 1, a, b, c, d => ends x y (M (pcs M x y f)) a b c d
/-- the pairs are written down -/
def wrk (K : List Int) (l : List Pr) : List Int := l.foldl (fun K p => K.set p.X.toNat p.Y) K
theorem wrk_append (K : List Int) (a b : List Pr) : wrk K (a ++ b) = wrk (wrk K a) b := by simp [wrk]
theorem wrk_cons (K : List Int) (p : Pr) (b : List Pr) : wrk K (p :: b) = wrk (K.set p.X.toNat p.Y) b := rfl
theorem wrk_length (K : List Int) (l : List Pr) : (wrk K l).length = K.length := by
  induction l generalizing K with
  | nil => rfl
  | cons p l ih => rw [wrk_cons, ih, List.length_set]
/-- a pair elsewhere may be written first -/
theorem wrk_comm (K : List Int) (l : List Pr) (u : Nat) (v : Int) (h : ∀ p ∈ l, p.X.toNat ≠ u) : wrk (K.set u v) l = (wrk K l).set u v := by
  induction l generalizing K with
  | nil => rfl
  | cons p l ih =>
    rw [wrk_cons, wrk_cons, List.set_comm _ _ (fun e => h p (List.mem_cons_self ..) e.symm), ih _ (fun q hq => h q (List.mem_cons_of_mem _ hq))]

theorem tf_same (x y : List Int) (a b c d : Nat) : ∀ i, i < tf x y a b c d → x[a + i]? = y[c + i]? := by
  induction h : b - a generalizing a c with
  | zero => intro i hi; rw [tf_eq, if_neg (by omega)] at hi; omega
  | succ n ih =>
    intro i hi
    rw [tf_eq] at hi
    split at hi
    · rename_i hh
      cases i with
      | zero => exact hh.2.2
      | succ i =>
        have := ih (a + 1) (c + 1) (by omega) i (by omega)
        rw [show a + (i + 1) = a + 1 + i by omega, show c + (i + 1) = c + 1 + i by omega]
        exact this
    · omega
theorem tb_same (x y : List Int) (a b c d : Nat) : ∀ i, i < tb x y a b c d → x[b - (i + 1)]? = y[d - (i + 1)]? := by
  induction h : b - a generalizing b d with
  | zero => intro i hi; rw [tb, if_neg (by omega)] at hi; omega
  | succ n ih =>
    intro i hi
    rw [tb] at hi
    split at hi
    · rename_i hh
      cases i with
      | zero => exact hh.2.2
      | succ i =>
        have := ih (b - 1) (d - 1) (by omega) i (by omega)
        rw [show b - (i + 1 + 1) = b - 1 - (i + 1) by omega, show d - (i + 1 + 1) = d - 1 - (i + 1) by omega]
        exact this
    · omega
/-- any two are the same, or one is above the other -/
def Ris (l : List Pr) : Prop := ∀ p ∈ l, ∀ q ∈ l, p = q ∨ ab q p ∨ ab p q
/-- within these bounds, rising, and of the same class -/
structure Okp (x y : List Int) (a b c d : Nat) (l : List Pr) : Prop where
  wn : ∀ p ∈ l, Wn a b c d p
  ris : Ris l
  eqs : ∀ p ∈ l, x[p.X.toNat]? = y[p.Y.toNat]?
section
variable {x y : List Int}
theorem Okp.nil (a b c d : Nat) : Okp x y a b c d [] := ⟨fun p hp => by simp at hp, fun p hp => by simp at hp, fun p hp => by simp at hp⟩
theorem Okp.mono {a b c d a' b' c' d' : Nat} {l : List Pr} (h : Okp x y a b c d l) (ha : a' ≤ a) (hb : b ≤ b') (hc : c' ≤ c) (hd : d ≤ d') : Okp x y a' b' c' d' l := ⟨fun p hp => by have := h.wn p hp; unfold Wn at this ⊢; omega, h.ris, h.eqs⟩
theorem Okp.one {a c : Nat} (h : x[a]? = y[c]?) : Okp x y a (a + 1) c (c + 1) [⟨a, c⟩] := ⟨fun p hp => by simp at hp; subst hp; unfold Wn; dsimp only; omega, fun p hp q hq => by simp at hp hq; subst hp; subst hq; exact .inl rfl, fun p hp => by simp at hp; subst hp; simpa using h⟩
theorem Okp.cat {a b c d a' b' c' d' A B C D : Nat} {l l' : List Pr} (h : Okp x y a b c d l) (h' : Okp x y a' b' c' d' l') (hs : (b ≤ a' ∧ d ≤ c') ∨ (b' ≤ a ∧ d' ≤ c)) (h1 : A ≤ a ∧ A ≤ a') (h2 : b ≤ B ∧ b' ≤ B) (h3 : C ≤ c ∧ C ≤ c') (h4 : d ≤ D ∧ d' ≤ D) : Okp x y A B C D (l ++ l') := by
  refine ⟨fun p hp => ?_, fun p hp q hq => ?_, fun p hp => ?_⟩
  · rcases List.mem_append.1 hp with hp | hp
    · exact (h.mono h1.1 h2.1 h3.1 h4.1).wn p hp
    · exact (h'.mono h1.2 h2.2 h3.2 h4.2).wn p hp
  · rcases List.mem_append.1 hp with hp | hp <;> rcases List.mem_append.1 hq with hq | hq
    · exact h.ris p hp q hq
    · have e1 := h.wn p hp
      have e2 := h'.wn q hq
      unfold Wn at e1 e2
      rcases hs with hs | hs
      · exact .inr (.inl ⟨by omega, by omega⟩)
      · exact .inr (.inr ⟨by omega, by omega⟩)
    · have e1 := h'.wn p hp
      have e2 := h.wn q hq
      unfold Wn at e1 e2
      rcases hs with hs | hs
      · exact .inr (.inr ⟨by omega, by omega⟩)
      · exact .inr (.inl ⟨by omega, by omega⟩)
    · exact h'.ris p hp q hq
  · rcases List.mem_append.1 hp with hp | hp
    · exact h.eqs p hp
    · exact h'.eqs p hp
theorem fp_ok (a c k : Nat) (h : ∀ i, i < k → x[a + i]? = y[c + i]?) : Okp x y a (a + k) c (c + k) (fp a c k) := by
  induction k generalizing a c with
  | zero => exact Okp.nil _ _ _ _
  | succ k ih => exact (Okp.one (h 0 (by omega))).cat (ih (a + 1) (c + 1) (fun i hi => by have := h (i + 1) (by omega); rw [show a + 1 + i = a + (i + 1) by omega, show c + 1 + i = c + (i + 1) by omega]; exact this)) (.inl ⟨by omega, by omega⟩) ⟨by omega, by omega⟩ ⟨by omega, by omega⟩ ⟨by omega, by omega⟩ ⟨by omega, by omega⟩
theorem bp_ok (b d k : Nat) (hb : k ≤ b) (hd : k ≤ d) (h : ∀ i, i < k → x[b - (i + 1)]? = y[d - (i + 1)]?) : Okp x y (b - k) b (d - k) d (bp b d k) := by
  induction k generalizing b d with
  | zero => exact Okp.nil _ _ _ _
  | succ k ih =>
    have h0 : Okp x y (b - 1) (b - 1 + 1) (d - 1) (d - 1 + 1) [⟨(b - 1 : Nat), (d - 1 : Nat)⟩] := Okp.one (by simpa using h 0 (by omega))
    exact h0.cat (ih (b - 1) (d - 1) (by omega) (by omega) (fun i hi => by have := h (i + 1) (by omega); rw [show b - 1 - (i + 1) = b - (i + 1 + 1) by omega, show d - 1 - (i + 1) = d - (i + 1 + 1) by omega]; exact this)) (.inr ⟨by omega, by omega⟩) ⟨by omega, by omega⟩ ⟨by omega, by omega⟩ ⟨by omega, by omega⟩ ⟨by omega, by omega⟩
theorem lp_ok (K : List Int) : ∀ (a c nx m : Nat), Vk nx m K → (∀ (i q : Nat), K[i]? = some (q : Int) → x[a + i]? = y[c + q]?) → Okp x y a (a + K.length) (c + nx) (c + m) (lp a c K) := by
  induction K with
  | nil => intro a c nx m _ _; exact Okp.nil _ _ _ _
  | cons z K ih =>
    intro a c nx m h hs
    rw [lp]
    simp only [List.length_cons]
    have hs' : ∀ (i q : Nat), K[i]? = some (q : Int) → x[a + 1 + i]? = y[c + q]? := fun i q hi => by
      have := hs (i + 1) q (by simpa using hi)
      rw [show a + 1 + i = a + (i + 1) by omega]
      exact this
    rcases h with ⟨hz, h⟩ | ⟨hz, h1, h2, h⟩
    · rw [if_pos hz, List.nil_append]
      exact (ih (a + 1) c nx m h hs').mono (by omega) (by omega) (by omega) (by omega)
    · rw [if_neg hz]
      obtain ⟨j, rfl⟩ : ∃ j : Nat, z = j := ⟨z.toNat, by omega⟩
      have e1 : Okp x y a (a + 1) (c + j) (c + j + 1) [⟨(a : Int), (c : Int) + (j : Int)⟩] := by simpa using Okp.one (x := x) (y := y) (a := a) (c := c + j) (by simpa using hs 0 j (by simp))
      exact e1.cat (ih (a + 1) c (j + 1) m (by simpa using h) hs') (.inl ⟨by omega, by omega⟩) ⟨by omega, by omega⟩ ⟨by omega, by omega⟩ ⟨by omega, by omega⟩ ⟨by omega, by omega⟩
end
theorem sub_at (x : List Int) (a b i : Nat) (hi : i < b - a) : (sub x a b)[i]? = x[a + i]? := by
  unfold sub
  rw [List.getElem?_take_of_lt hi, List.getElem?_drop]
theorem sub_some {x : List Int} {a b i : Nat} {z : Int} (h : (sub x a b)[i]? = some z) : i < b - a ∧ x[a + i]? = some z := by
  have h1 := (List.getElem?_eq_some_iff.1 h).1
  unfold sub at h1
  rw [List.length_take] at h1
  exact ⟨by omega, by rw [← sub_at x a b i (by omega)]; exact h⟩
/-- what the least script keeps of a middle -/
theorem least_ok (x y : List Int) (a b c d : Nat) (hab : a ≤ b) (hb : b ≤ x.length) (hcd : c ≤ d) (hd : d ≤ y.length) : Okp x y a b c d (lp a c (kp 0 (sub x a b) (sub y c d))) := by
  have h1 := lp_ok (x := x) (y := y) (kp 0 (sub x a b) (sub y c d)) a c 0 (d - c) (by
    have := kp_vk 0 (sub x a b) (sub y c d) (Int.le_refl _)
    rw [sub_length y _ _ (by omega), Int.zero_add] at this
    exact this) (fun i q hq => by
      obtain ⟨_, z, h1, h2⟩ := kp_same 0 _ _ (Int.le_refl _) i q hq (by omega)
      rw [show ((q : Int) - 0).toNat = q by omega] at h2
      rw [(sub_some h1).2, (sub_some h2).2])
  rw [kp_length, sub_length x _ _ (by omega)] at h1
  exact h1.mono (Nat.le_refl _) (by omega) (by omega) (by omega)
theorem ends_ok (x y : List Int) (N : Nat → Nat → Nat → Nat → List Pr) (a b c d : Nat) (hab : a ≤ b) (_ : b ≤ x.length) (hcd : c ≤ d) (_ : d ≤ y.length) (hN : ∀ a' b' c' d', a ≤ a' → a' < b' → b' ≤ b → c ≤ c' → c' < d' → d' ≤ d → Okp x y a' b' c' d' (N a' b' c' d')) : Okp x y a b c d (ends x y N a b c d) := by
  unfold ends
  have hk := tf_le x y a b c d
  have hks := tf_same x y a b c d
  generalize tf x y a b c d = k at hk hks ⊢
  have hm := tb_le x y (a + k) b (c + k) d
  have hms := tb_same x y (a + k) b (c + k) d
  generalize tb x y (a + k) b (c + k) d = m at hm hms ⊢
  have hmid : Okp x y (a + k) (b - m) (c + k) (d - m) (if a + k < b - m ∧ c + k < d - m then N (a + k) (b - m) (c + k) (d - m) else []) := by
    split
    · rename_i h
      exact hN _ _ _ _ (by omega) h.1 (by omega) (by omega) h.2 (by omega)
    · exact Okp.nil _ _ _ _
  have h1 := fp_ok (x := x) (y := y) a c k hks
  have h2 := bp_ok (x := x) (y := y) b d m (by omega) (by omega) hms
  exact h1.cat (h2.cat hmid (.inr ⟨by omega, by omega⟩) (A := a + k) (B := b) (C := c + k) (D := d) ⟨by omega, by omega⟩ ⟨by omega, by omega⟩ ⟨by omega, by omega⟩ ⟨by omega, by omega⟩) (.inl ⟨by omega, by omega⟩) ⟨by omega, by omega⟩ ⟨by omega, by omega⟩ ⟨by omega, by omega⟩ ⟨by omega, by omega⟩
/-- an engine that goes on with shorter pieces keeps what is right, if they do -/
def MOk (M : (Nat → Nat → Nat → Nat → List Pr) → Nat → Nat → Nat → Nat → List Pr) (x y : List Int) : Prop := ∀ (rec : Nat → Nat → Nat → Nat → List Pr) (a b c d : Nat), a < b → b ≤ x.length → c < d → d ≤ y.length → (∀ a' b' c' d', a' ≤ b' → b' ≤ x.length → c' ≤ d' → d' ≤ y.length → Okp x y a' b' c' d' (rec a' b' c' d')) → Okp x y a b c d (M rec a b c d)
theorem pcs_ok {M : (Nat → Nat → Nat → Nat → List Pr) → Nat → Nat → Nat → Nat → List Pr} {x y : List Int} (hM : MOk M x y) (f : Nat) : ∀ a b c d, a ≤ b → b ≤ x.length → c ≤ d → d ≤ y.length → Okp x y a b c d (pcs M x y f a b c d) := by
  induction f with
  | zero => intro a b c d _ _ _ _; exact Okp.nil _ _ _ _
  | succ f ih =>
    intro a b c d hab hb hcd hd
    rw [pcs]
    exact ends_ok x y _ a b c d hab hb hcd hd (fun a' b' c' d' _ h2 h3 _ h5 h6 => hM _ a' b' c' d' h2 (by omega) h5 (by omega) ih)

/-- what stands at a place behind the writing -/
theorem wrk_get (l : List Pr) : ∀ (K : List Int) (i : Nat) (z : Int), (wrk K l)[i]? = some z → K[i]? = some z ∨ ∃ p ∈ l, p.X.toNat = i ∧ p.Y = z := by
  induction l with
  | nil => intro K i z h; exact .inl h
  | cons p l ih =>
    intro K i z h
    rw [wrk_cons] at h
    rcases ih _ i z h with h | ⟨q, hq, h⟩
    · by_cases e : p.X.toNat = i
      · subst e
        by_cases hl : p.X.toNat < K.length
        · rw [List.getElem?_set_self hl] at h
          cases h
          exact .inr ⟨p, List.mem_cons_self .., rfl, rfl⟩
        · rw [List.getElem?_eq_none (by rw [List.length_set]; omega)] at h
          cases h
      · rw [List.getElem?_set_ne e] at h
        exact .inl h
    · exact .inr ⟨q, List.mem_cons_of_mem _ hq, h⟩
theorem vk_of (K : List Int) : ∀ (nx m : Int), (∀ z ∈ K, z = -1 ∨ (nx ≤ z ∧ z < m)) → K.Pairwise (fun z z' => z = -1 ∨ z' = -1 ∨ z < z') → Vk nx m K := by
  induction K with
  | nil => intro _ _ _ _; trivial
  | cons z K ih =>
    intro nx m h1 h2
    have h2' := List.pairwise_cons.1 h2
    by_cases hz : z = -1
    · exact .inl ⟨hz, ih nx m (fun y hy => h1 y (List.mem_cons_of_mem _ hy)) h2'.2⟩
    · have h3 := (h1 z (List.mem_cons_self ..)).resolve_left hz
      refine .inr ⟨hz, h3.1, h3.2, ih (z + 1) m (fun y hy => ?_) h2'.2⟩
      rcases h1 y (List.mem_cons_of_mem _ hy) with e | e
      · exact .inl e
      · rcases h2'.1 y hy with q | q | q
        · exact absurd q hz
        · exact .inl q
        · exact .inr ⟨by omega, e.2⟩
/-- what is written is a keeping -/
theorem wrk_vk {x y : List Int} (n m : Nat) (l : List Pr) (h : Okp x y 0 n 0 m l) : Vk 0 m (wrk (List.replicate n (-1)) l) := by
  have hget : ∀ (i : Nat) (z : Int), (wrk (List.replicate n (-1)) l)[i]? = some z → z = -1 ∨ ∃ p ∈ l, p.X = i ∧ p.Y = z := fun i z hz => by
    rcases wrk_get l _ i z hz with q | ⟨p, hp, q1, q2⟩
    · left
      rw [List.getElem?_replicate] at q
      split at q
      · cases q; rfl
      · cases q
    · have := h.wn p hp
      unfold Wn at this
      exact .inr ⟨p, hp, by omega, q2⟩
  refine vk_of _ 0 m (fun z hz => ?_) (List.pairwise_iff_getElem.2 fun i j hi hj hij => ?_)
  · obtain ⟨i, hi, e⟩ := List.getElem_of_mem hz
    rcases hget i z (by rw [List.getElem?_eq_getElem hi, e]) with q | ⟨p, hp, _, q2⟩
    · exact .inl q
    · have := h.wn p hp
      unfold Wn at this
      exact .inr ⟨by omega, by omega⟩
  · rcases hget i _ (List.getElem?_eq_getElem hi) with q | ⟨p, hp, p1, p2⟩
    · exact .inl q
    · rcases hget j _ (List.getElem?_eq_getElem hj) with q | ⟨q, hq, q1, q2⟩
      · exact .inr (.inl q)
      · refine .inr (.inr ?_)
        rw [← p2, ← q2]
        rcases h.ris p hp q hq with e | e | e
        · subst e
          omega
        · exact e.2
        · have := e.1
          omega

/-- what is written of pairs is found there -/
theorem wrk_has (l : List Pr) (n : Nat) (hr : Ris l) (hw : ∀ p ∈ l, 0 ≤ p.X ∧ p.X < n) : ∀ K : List Int, K.length = n → ∀ p ∈ l, (wrk K l)[p.X.toNat]? = some p.Y := by
  induction l with
  | nil => intro K _ p hp; simp at hp
  | cons q l ih =>
    intro K hK p hp
    rw [wrk_cons]
    have ih' := ih (fun a ha b hb => hr a (List.mem_cons_of_mem _ ha) b (List.mem_cons_of_mem _ hb)) (fun a ha => hw a (List.mem_cons_of_mem _ ha)) (K.set q.X.toNat q.Y) (by rw [List.length_set]; exact hK)
    by_cases h : p ∈ l
    · exact ih' p h
    · have e : p = q := (List.mem_cons.1 hp).resolve_right h
      subst e
      have hb := hw p (List.mem_cons_self ..)
      by_cases hx : ∃ r ∈ l, r.X.toNat = p.X.toNat
      · obtain ⟨r, h1, h2⟩ := hx
        have hrb := hw r (List.mem_cons_of_mem _ h1)
        rcases hr p (List.mem_cons_self ..) r (List.mem_cons_of_mem _ h1) with e | e | e
        · subst e; exact ih' p h1
        · have := e.1; omega
        · have := e.1; omega
      · rw [wrk_comm K l _ _ (fun r h1 h2 => hx ⟨r, h1, h2⟩), List.getElem?_set_self (by rw [wrk_length]; omega)]
/-- what both texts keep: all that the laws ask -/
theorem hon_le (K : List Int) : ∀ (x y : List Int) (nx : Nat), Vk nx y.length K → K.length = x.length → (∀ (i q : Nat), K[i]? = some (q : Int) → x[i]? = y[q]?) → prs K ≤ lc x (y.drop nx) := by
  induction K with
  | nil => intro x y nx _ _ _; simp [prs]
  | cons z K ih =>
    intro x y nx hV hl hs
    cases x with
    | nil => simp at hl
    | cons e x =>
      have hs' : ∀ (i q : Nat), K[i]? = some (q : Int) → x[i]? = y[q]? := fun i q hi => by simpa using hs (i + 1) q (by simpa using hi)
      rcases hV with ⟨hz, h⟩ | ⟨hz, h1, h2, h⟩
      · subst hz
        have := ih x y nx h (by simpa using hl) hs'
        have h2 := lc_mono (List.sublist_cons_self e x) (List.Sublist.refl (y.drop nx))
        have h3 : prs (-1 :: K) = prs K := by simp [prs]
        omega
      · obtain ⟨q, rfl⟩ : ∃ j : Nat, z = j := ⟨z.toNat, by omega⟩
        have hq : q < y.length := by omega
        have h0 := hs 0 q (by simp)
        rw [List.getElem?_eq_getElem hq] at h0
        simp at h0
        have := ih x y (q + 1) (by simpa using h) (by simpa using hl) hs'
        have e2 : y.drop q = e :: y.drop (q + 1) := by rw [List.drop_eq_getElem_cons hq, h0]
        have h4 : lc (e :: x) (y.drop q) = lc x (y.drop (q + 1)) + 1 := by rw [e2, lc_ahead]
        have h5 : (y.drop q).Sublist (y.drop nx) := by
          rw [show q = nx + (q - nx) by omega, ← List.drop_drop]
          exact List.drop_sublist _ _
        have h6 := lc_mono (List.Sublist.refl (e :: x)) h5
        have h7 : prs ((q : Int) :: K) = prs K + 1 := by simp [prs]
        omega
theorem mk_id (n : Nat) : mkL ((List.range n).map fun (j : Nat) => (0 : Int) + (j : Int)) n = [] := by
  unfold mkL
  rw [keptR_run 0 0 (Int.le_refl _)]
  have := betw_un 0 0 n [⟨(n : Int), (n : Int), 0⟩]
  simp at this ⊢
  first | (rw [this]; simp [betw]) | simpa [betw] using this
/-- no changes: the same texts -/
theorem nil_same {K x y : List Int} (hV : Vk 0 y.length K) (hl : K.length = x.length) (hs : ∀ (i q : Nat), K[i]? = some (q : Int) → x[i]? = y[q]?) (hx : x.length ≤ 4096) (hy : y.length ≤ 4096) (h : mkL K y.length = []) : x = y := by
  obtain ⟨⟨_, _, hS⟩, hU⟩ := mk_script hV (by omega) (by omega) (by rw [hl]; omega)
  rw [h] at hS hU
  rw [U_nil] at hU
  have hnm : x.length = y.length := by
    have h1 := hS.2.2
    rw [hl] at h1
    omega
  apply List.ext_getElem? 
  intro i
  by_cases hi : i < x.length
  · have hm : (⟨(i : Int), (i : Int), 1⟩ : Rn) ∈ keptR 0 K := by
      rw [← hU, mem_un]
      rw [hl]
      refine ⟨rfl, ?_, ?_, ?_⟩ <;> dsimp only <;> omega
    rw [mem_keptR] at hm
    obtain ⟨_, _, h3, _⟩ := hm
    dsimp only at h3
    rw [show ((i : Int) - 0).toNat = i by omega] at h3
    exact hs i i h3
  · rw [List.getElem?_eq_none (by omega), List.getElem?_eq_none (by omega)]
/-- what is kept at the front: the first change stands behind it -/
theorem front_le {K : List Int} {m : Nat} (hV : Vk 0 m K) (hl : K.length ≤ 4096) (hm : m ≤ 4096) {c : Ch} {L : List Ch} (h : mkL K m = c :: L) (k : Nat) (hk : ∀ i, i < k → K[i]? = some (i : Int)) : (k : Int) ≤ c.A := by
  obtain ⟨hS, hkm, _⟩ := keep_mk hV (by omega) (by omega) (by omega)
  rw [h] at hS hkm
  have hR := hS.2.2
  obtain ⟨⟨h1, h2, h3, h4⟩, h5⟩ := hR
  rw [numB_iff] at h1
  refine Int.not_lt.1 fun hlt => ?_
  have hA := hk c.A.toNat (by omega)
  have e : keepL (c :: L) K.length m = kr 0 0 K.length m (c :: L) := rfl
  rw [e, kr_cons] at hkm
  by_cases hAN : 0 < c.AN
  · rw [← hkm, List.getElem?_append_left (by simp; omega), List.getElem?_append_right (by simp)] at hA
    simp [List.getElem?_replicate] at hA
    omega
  · have hrest : (kr (c.A + c.AN) (c.B + c.BN) K.length m L)[0]? = some c.A := by
      rw [← hkm, List.getElem?_append_right (by simp; omega)] at hA
      simp at hA
      rw [hA]
      congr 1
      omega
    have hmem : (⟨c.A + c.AN, c.A, 1⟩ : Rn) ∈ keptR (c.A + c.AN) (kr (c.A + c.AN) (c.B + c.BN) K.length m L) := by
      rw [mem_keptR]
      refine ⟨rfl, Int.le_refl _, ?_, by dsimp only; omega⟩
      dsimp only
      rw [show (c.A + c.AN - (c.A + c.AN)).toNat = 0 by omega]
      exact hrest
    rw [kr_kept h5 (by omega)] at hmem
    have := h5.bounds _ hmem
    dsimp only at this
    omega
/-- all that is written of a right list of pairs -/
structure Kpt (x y K : List Int) : Prop where
  vk : Vk 0 y.length K
  len : K.length = x.length
  eqs : ∀ (i q : Nat), K[i]? = some (q : Int) → x[i]? = y[q]?
theorem Okp.kpt {x y : List Int} {l : List Pr} (h : Okp x y 0 x.length 0 y.length l) : Kpt x y (wrk (List.replicate x.length (-1)) l) := by
  refine ⟨wrk_vk _ _ _ h, by rw [wrk_length]; simp, fun i q hq => ?_⟩
  rcases wrk_get l _ i q hq with e | ⟨p, hp, e1, e2⟩
  · rw [List.getElem?_replicate] at e
    split at e
    · simp at e
    · cases e
  · have h1 := h.eqs p hp
    rw [e1, e2] at h1
    simpa using h1
theorem Okp.at {x y : List Int} {l : List Pr} (h : Okp x y 0 x.length 0 y.length l) {p : Pr} (hp : p ∈ l) : (wrk (List.replicate x.length (-1)) l)[p.X.toNat]? = some p.Y :=
  wrk_has l x.length h.ris (fun q hq => by have := h.wn q hq; unfold Wn at this; omega) _ (by simp) p hp
theorem mem_fp {a c k : Nat} {p : Pr} : p ∈ fp a c k ↔ ∃ i, i < k ∧ p = ⟨(a + i : Nat), (c + i : Nat)⟩ := by
  induction k generalizing a c with
  | zero => simp [fp]
  | succ k ih =>
    rw [fp, List.mem_cons, ih]
    constructor
    · rintro (rfl | ⟨i, hi, rfl⟩)
      · exact ⟨0, by omega, by simp⟩
      · exact ⟨i + 1, by omega, by rw [show a + 1 + i = a + (i + 1) by omega, show c + 1 + i = c + (i + 1) by omega]⟩
    · rintro ⟨i, hi, rfl⟩
      cases i with
      | zero => left; simp
      | succ i => exact .inr ⟨i, by omega, by rw [show a + 1 + i = a + (i + 1) by omega, show c + 1 + i = c + (i + 1) by omega]⟩
theorem tf_all (x : List Int) (a b : Nat) : tf x x a b a b = b - a := by
  induction h : b - a generalizing a with
  | zero => rw [tf_eq, if_neg (by omega)]
  | succ n ih => rw [tf_eq, if_pos ⟨by omega, by omega, rfl⟩, ih (a + 1) (by omega)]
end Go.Proofs.YtgiojkhmkeocfaaDoor

/- Runs of two rows of numbers, and the one to hold on to: plain. -/
namespace Go.Proofs.YtgiojkhmkeocfaaDoor

/-- a run -/
structure Hr where
  X : Nat
  Y : Nat
  N : Nat
  R : Nat
/-- how often the member at a place stands in x -/
def cnt (x : List Int) (k : Nat) : Nat := match x[k]? with
  | some c => x.count c
  | none => x.length
/-- how rare n members from i on are -/
def rar (x : List Int) (i : Nat) : Nat → Nat
  | 0 => x.length
  | n + 1 => min (rar x i n) (cnt x (i + n))
/-- how many are the same from i and j on -/
def tl (x y : List Int) (i j : Nat) : Nat := tf x y i x.length j y.length
/-- how many are the same ahead of i and j -/
def hd (x y : List Int) (i j : Nat) : Nat := tb x y 0 i 0 j
theorem tl_step (x y : List Int) (i j : Nat) : tl x y i j = if i < x.length ∧ j < y.length ∧ x[i]? = y[j]? then tl x y (i + 1) (j + 1) + 1 else 0 := by unfold tl; rw [tf_eq]
theorem hd_step (x y : List Int) (i j : Nat) : hd x y i j = if 0 < i ∧ 0 < j ∧ x[i - 1]? = y[j - 1]? then hd x y (i - 1) (j - 1) + 1 else 0 := by unfold hd; rw [tb]
theorem hd_le (x y : List Int) (i j : Nat) : hd x y i j ≤ i ∧ hd x y i j ≤ j := by have := tb_le x y 0 i 0 j; unfold hd; omega
theorem tl_le (x y : List Int) (i j : Nat) : tl x y i j ≤ x.length - i ∧ tl x y i j ≤ y.length - j := tf_le x y i x.length j y.length
theorem tl_same (x y : List Int) (i j : Nat) : ∀ k, k < tl x y i j → x[i + k]? = y[j + k]? := tf_same x y i x.length j y.length
theorem hd_same (x y : List Int) (i j : Nat) : ∀ k, k < hd x y i j → x[i - (k + 1)]? = y[j - (k + 1)]? := tb_same x y 0 i 0 j
/-- no run is cut at its end -/
theorem tl_end (x y : List Int) (i j : Nat) : ¬ (i + tl x y i j < x.length ∧ j + tl x y i j < y.length ∧ x[i + tl x y i j]? = y[j + tl x y i j]?) := by
  induction h : x.length - i generalizing i j with
  | zero => rw [tl_step, if_neg (by omega)]; omega
  | succ n ih =>
    rw [tl_step]
    split
    · have := ih (i + 1) (j + 1) (by omega)
      rw [show i + (tl x y (i + 1) (j + 1) + 1) = i + 1 + tl x y (i + 1) (j + 1) by omega, show j + (tl x y (i + 1) (j + 1) + 1) = j + 1 + tl x y (i + 1) (j + 1) by omega]
      exact this
    · rename_i h2
      exact fun h3 => h2 (by simpa using h3)
theorem hd_end (x y : List Int) (i j : Nat) : ¬ (0 < i - hd x y i j ∧ 0 < j - hd x y i j ∧ x[i - hd x y i j - 1]? = y[j - hd x y i j - 1]?) := by
  induction i generalizing j with
  | zero => omega
  | succ i ih =>
    rw [hd_step]
    split
    · rename_i h
      have := ih (j - 1)
      rw [Nat.add_sub_cancel]
      rw [show i + 1 - (hd x y i (j - 1) + 1) = i - hd x y i (j - 1) by omega, show j - (hd x y i (j - 1) + 1) = j - 1 - hd x y i (j - 1) by omega]
      exact this
    · rename_i h
      exact fun h2 => h (by simpa using h2)
/-- how many are the same is told by where they end -/
theorem tl_of (x y : List Int) (i j n : Nat) (hx : i + n ≤ x.length) (hy : j + n ≤ y.length) (h : ∀ k, k < n → x[i + k]? = y[j + k]?) : tl x y i j = n + tl x y (i + n) (j + n) := by
  induction n generalizing i j with
  | zero => simp
  | succ n ih =>
    rw [tl_step, if_pos ⟨by omega, by omega, by simpa using h 0 (by omega)⟩, ih (i + 1) (j + 1) (by omega) (by omega) (fun k hk => by
      have := h (k + 1) (by omega)
      rw [show i + 1 + k = i + (k + 1) by omega, show j + 1 + k = j + (k + 1) by omega]
      exact this), show i + 1 + n = i + (n + 1) by omega, show j + 1 + n = j + (n + 1) by omega]
    omega
theorem hd_of (x y : List Int) (i j n : Nat) (h : ∀ k, k < n → x[i + k]? = y[j + k]?) (h0 : ¬ (0 < i ∧ 0 < j ∧ x[i - 1]? = y[j - 1]?)) : hd x y (i + n) (j + n) = n := by
  induction n with
  | zero => rw [Nat.add_zero, Nat.add_zero, hd_step, if_neg h0]
  | succ n ih =>
    rw [hd_step, if_pos ⟨by omega, by omega, by simpa using h n (by omega)⟩, show i + (n + 1) - 1 = i + n by omega, show j + (n + 1) - 1 = j + n by omega, ih (fun k hk => h k (by omega))]
/-- a run of x and y -/
structure IsRun (x y : List Int) (r : Hr) : Prop where
  hx : r.X < x.length
  hy : r.Y < y.length
  same : x[r.X]? = y[r.Y]?
  fst : ¬ (0 < r.X ∧ 0 < r.Y ∧ x[r.X - 1]? = y[r.Y - 1]?)
  n : r.N = tl x y r.X r.Y
  r : r.R = rar x r.X r.N
/-- rather held on to -/
def hlt (r b : Hr) : Prop := r.R < b.R ∨ (r.R = b.R ∧ (b.N < r.N ∨ (r.N = b.N ∧ (r.X < b.X ∨ (r.X = b.X ∧ r.Y < b.Y)))))
def Bst (x y : List Int) (b : Hr) : Prop := IsRun x y b ∧ ∀ r, IsRun x y r → r = b ∨ hlt b r
theorem Bst.one {x y : List Int} {a b : Hr} (ha : Bst x y a) (hb : Bst x y b) : a = b := by
  rcases ha.2 b hb.1 with h | h
  · exact h.symm
  · rcases hb.2 a ha.1 with h' | h'
    · exact h'
    · unfold hlt at h h'
      omega
theorem IsRun.pos {x y : List Int} {r : Hr} (h : IsRun x y r) : 0 < r.N := by
  rw [h.n, tl_step, if_pos ⟨h.hx, h.hy, h.same⟩]
  omega
theorem cnt_le (x : List Int) (k : Nat) : cnt x k ≤ x.length := by
  unfold cnt
  split
  · exact List.count_le_length
  · exact Nat.le_refl _
theorem cnt_at {x : List Int} {k : Nat} {c : Int} (h : x[k]? = some c) : cnt x k = x.count c := by unfold cnt; rw [h]
theorem rar_le (x : List Int) (i n k : Nat) (hk : k < n) : rar x i n ≤ cnt x (i + k) := by
  induction n with
  | zero => omega
  | succ n ih =>
    rw [rar]
    by_cases e : k = n
    · subst e; omega
    · have := ih (by omega); omega
theorem rar_at (x : List Int) (i n : Nat) (hn : 0 < n) : ∃ k, k < n ∧ rar x i n = cnt x (i + k) := by
  induction n with
  | zero => omega
  | succ n ih =>
    rw [rar]
    by_cases h0 : n = 0
    · subst h0
      refine ⟨0, by omega, ?_⟩
      have := cnt_le x (i + 0)
      rw [rar]
      omega
    · obtain ⟨k, h1, h2⟩ := ih (by omega)
      by_cases h : rar x i n ≤ cnt x (i + n)
      · exact ⟨k, by omega, by omega⟩
      · exact ⟨n, by omega, by omega⟩

/-- going through a row: the first one that no other outdoes -/
def pickL (better : Hr → Hr → Bool) (b : Hr) (l : List Hr) : Hr := l.foldl (fun b r => if better r b then r else b) b
/-- the reference: rarer, or as rare and longer -/
def btR (r b : Hr) : Bool := decide (r.R < b.R) || (decide (r.R = b.R) && decide (b.N < r.N))
/-- in the order of their places -/
def lex (a b : Hr) : Prop := a.X < b.X ∨ (a.X = b.X ∧ a.Y < b.Y)
theorem pickR_spec (l : List Hr) : ∀ (P : List Hr) (b : Hr), b ∈ P → (∀ r ∈ P, r = b ∨ hlt b r) → (P ++ l).Pairwise lex → pickL btR b l ∈ P ++ l ∧ ∀ r ∈ P ++ l, r = pickL btR b l ∨ hlt (pickL btR b l) r := by
  induction l with
  | nil => intro P b hb h _; simp only [List.append_nil]; exact ⟨hb, h⟩
  | cons c l ih =>
    intro P b hb h hp
    have e : P ++ c :: l = (P ++ [c]) ++ l := by simp
    rw [e] at hp ⊢
    have hbc : lex b c := by
      have := (List.pairwise_append.1 (List.pairwise_append.1 hp).1).2.2 b hb c (List.mem_singleton.2 rfl)
      exact this
    unfold pickL
    rw [List.foldl_cons]
    by_cases hb' : btR c b = true
    · rw [if_pos hb']
      refine ih (P ++ [c]) c (by simp) (fun r hr => ?_) hp
      rcases List.mem_append.1 hr with hr | hr
      · right
        have h1 := h r hr
        simp [btR] at hb'
        rcases h1 with rfl | h1
        · unfold hlt; omega
        · unfold hlt at h1 ⊢; omega
      · left
        simpa using hr
    · rw [if_neg hb']
      refine ih (P ++ [c]) b (by simp [hb]) (fun r hr => ?_) hp
      rcases List.mem_append.1 hr with hr | hr
      · exact h r hr
      · right
        have e2 : r = c := by simpa using hr
        subst e2
        simp [btR] at hb'
        unfold lex at hbc
        unfold hlt
        omega
/-- the code: longer, or as long and ahead -/
def btC (r b : Hr) : Bool := decide (b.N < r.N) || (decide (r.N = b.N) && (decide (r.X < b.X) || (decide (r.X = b.X) && decide (r.Y < b.Y))))
theorem pickC_spec (l : List Hr) : ∀ b : Hr, (pickL btC b l = b ∨ pickL btC b l ∈ l) ∧ btC b (pickL btC b l) = false ∧ ∀ r ∈ l, btC r (pickL btC b l) = false := by
  induction l with
  | nil => intro b; refine ⟨.inl rfl, ?_, fun r hr => by simp at hr⟩; simp [pickL, btC]
  | cons c l ih =>
    intro b
    have e : pickL btC b (c :: l) = pickL btC (if btC c b then c else b) l := rfl
    rw [e]
    by_cases hb : btC c b = true
    · rw [if_pos hb]
      obtain ⟨h1, h2, h3⟩ := ih c
      refine ⟨.inr ?_, ?_, fun r hr => ?_⟩
      · rcases h1 with h1 | h1
        · rw [h1]; exact List.mem_cons_self ..
        · exact List.mem_cons_of_mem _ h1
      · simp [btC] at hb h2 ⊢; omega
      · rcases List.mem_cons.1 hr with rfl | hr
        · exact h2
        · exact h3 r hr
    · rw [if_neg hb]
      obtain ⟨h1, h2, h3⟩ := ih b
      refine ⟨?_, h2, fun r hr => ?_⟩
      · rcases h1 with h1 | h1
        · exact .inl h1
        · exact .inr (List.mem_cons_of_mem _ h1)
      · rcases List.mem_cons.1 hr with rfl | hr
        · simp [btC] at hb h2 ⊢; omega
        · exact h3 r hr
end Go.Proofs.YtgiojkhmkeocfaaDoor
