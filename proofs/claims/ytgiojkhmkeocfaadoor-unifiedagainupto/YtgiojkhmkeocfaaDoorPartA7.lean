/-
  Texts that belong together, joined: HiRuns, EdOpen, HiMp, PcSl, HiGr, HiCm, HiOd, HiBm.
-/
import Derived.Test.YtgiojkhmkeocfaaDoorPartA6
import Derived.Test.YtgiojkhmkeocfaaDoorRows
import Derived.Test.YtgiojkhmkeocfaaDoorChecked
import Derived.Test.YtgiojkhmkeocfaaDoorPartA2
import Derived.ProofKit
import Derived.OpenShut
import Derived.ShutString
import Derived.ChangeOld
import Derived.Below
import Derived.SliceStrings
import Derived.ChangeSlices
import Derived.Deep.Slices
import Derived.Deep.SlicePairs
import Derived.JoinedCond
import Derived.Test.YtgiojkhmkeocfaaDoorPartA4
import Derived.Maps.OwnSet
import Derived.Carry
import Derived.Maps.OwnRows
import Derived.Maps.GroupsBeside
import Derived.Deep.CutRange

/- All runs, and those that hold one of the rarest members; both ways find the same one: plain. -/
namespace Go.Proofs.YtgiojkhmkeocfaaDoor

/-- the run that begins at two places, if one does -/
def rj (x y : List Int) (i j : Nat) : List Hr := if x[i]? = y[j]? ∧ ¬ (0 < i ∧ 0 < j ∧ x[i - 1]? = y[j - 1]?) then [⟨i, j, tl x y i j, rar x i (tl x y i j)⟩] else []
def rowR (x y : List Int) (i : Nat) : List Hr := (List.range' 0 y.length).flatMap (rj x y i)
/-- all runs -/
def runs (x y : List Int) : List Hr := (List.range' 0 x.length).flatMap (rowR x y)
theorem mem_runs (x y : List Int) (r : Hr) : r ∈ runs x y ↔ IsRun x y r := by
  unfold runs rowR rj
  simp only [List.mem_flatMap, List.mem_range'_1, Nat.zero_add]
  constructor
  · rintro ⟨i, ⟨_, hi⟩, j, ⟨_, hj⟩, h⟩
    split at h
    · rename_i hh
      simp at h
      subst h
      exact ⟨hi, hj, hh.1, hh.2, rfl, rfl⟩
    · simp at h
  · intro h
    refine ⟨r.X, ⟨Nat.zero_le _, h.hx⟩, r.Y, ⟨Nat.zero_le _, h.hy⟩, ?_⟩
    rw [if_pos ⟨h.same, h.fst⟩]
    simp
    obtain ⟨X, Y, N, R⟩ := r
    have h1 := h.n
    have h2 := h.r
    simp only at h1 h2 ⊢
    rw [h2, ← h1]
theorem flat_lex {n : Nat} (f : Nat → List Hr) (s : Nat) (h1 : ∀ i, ∀ r ∈ f i, r.X = i) (h2 : ∀ i, (f i).Pairwise lex) : ((List.range' s n).flatMap f).Pairwise lex := by
  induction n generalizing s with
  | zero => exact List.Pairwise.nil
  | succ n ih =>
    rw [List.range'_succ, List.flatMap_cons]
    refine List.pairwise_append.2 ⟨h2 s, ih (s + 1), fun a ha b hb => ?_⟩
    rw [List.mem_flatMap] at hb
    obtain ⟨i, hi, hb⟩ := hb
    rw [List.mem_range'_1] at hi
    have e1 := h1 s a ha
    have e2 := h1 i b hb
    left
    omega
theorem row_lex {n : Nat} (f : Nat → List Hr) (s X : Nat) (h1 : ∀ j, ∀ r ∈ f j, r.X = X ∧ r.Y = j) (h2 : ∀ j, (f j).Pairwise lex) : ((List.range' s n).flatMap f).Pairwise lex := by
  induction n generalizing s with
  | zero => exact List.Pairwise.nil
  | succ n ih =>
    rw [List.range'_succ, List.flatMap_cons]
    refine List.pairwise_append.2 ⟨h2 s, ih (s + 1), fun a ha b hb => ?_⟩
    rw [List.mem_flatMap] at hb
    obtain ⟨i, hi, hb⟩ := hb
    rw [List.mem_range'_1] at hi
    have e1 := h1 s a ha
    have e2 := h1 i b hb
    right
    omega
theorem rj_at (x y : List Int) (i j : Nat) : (∀ r ∈ rj x y i j, r.X = i ∧ r.Y = j) ∧ (rj x y i j).Pairwise lex := by
  unfold rj
  split
  · refine ⟨fun r hr => ?_, List.pairwise_singleton _ _⟩
    simp at hr
    subst hr
    exact ⟨rfl, rfl⟩
  · exact ⟨fun r hr => by simp at hr, List.Pairwise.nil⟩
theorem runs_lex (x y : List Int) : (runs x y).Pairwise lex := by
  unfold runs
  refine flat_lex _ 0 (fun i r hr => ?_) (fun i => row_lex _ 0 i (fun j r hr => (rj_at x y i j).1 r hr) (fun j => (rj_at x y i j).2))
  unfold rowR at hr
  rw [List.mem_flatMap] at hr
  obtain ⟨j, _, hr⟩ := hr
  exact ((rj_at x y i j).1 r hr).1
/-- the run to hold on to -/
def best (x y : List Int) : Option Hr := match runs x y with
  | [] => none
  | b :: l => some (pickL btR b l)
theorem best_some {x y : List Int} {b : Hr} (h : best x y = some b) : Bst x y b := by
  unfold best at h
  cases hr : runs x y with
  | nil => rw [hr] at h; cases h
  | cons c l =>
    rw [hr] at h
    cases h
    have := pickR_spec l [c] c (by simp) (fun r hr => by simp at hr; exact .inl hr) (by have := runs_lex x y; rw [hr] at this; exact this)
    have e : [c] ++ l = runs x y := by rw [hr]; rfl
    rw [e] at this
    exact ⟨(mem_runs x y _).1 this.1, fun r h => this.2 r ((mem_runs x y r).2 h)⟩
theorem best_none {x y : List Int} (h : best x y = none) (r : Hr) : ¬ IsRun x y r := by
  intro hr
  have := (mem_runs x y r).2 hr
  unfold best at h
  cases hs : runs x y with
  | nil => rw [hs] at this; simp at this
  | cons c l => rw [hs] at h; cases h
theorem best_of {x y : List Int} {b : Hr} (h : Bst x y b) : best x y = some b := by
  cases hb : best x y with
  | none => exact absurd h.1 (best_none hb b)
  | some c => rw [(best_some hb).one h]

/-- the run in which two equal members stand -/
def runAt (x y : List Int) (i j R : Nat) : Hr := ⟨i - hd x y i j, j - hd x y i j, hd x y i j + tl x y i j, R⟩
/-- a rarest member stands ahead of it in its run -/
def skp (x : List Int) (R i t : Nat) : Bool := (List.range t).any fun s => cnt x (i - (s + 1)) == R
/-- where the class of a member stands in y, if it is one of the rarest -/
def pj (x y : List Int) (R i : Nat) : List Nat := if cnt x i = R then (List.range y.length).filter (fun j => decide (y[j]? = x[i]?)) else []
def ck (x y : List Int) (R i j : Nat) : List Hr := if skp x R i (hd x y i j) then [] else [runAt x y i j R]
def cands (x y : List Int) (R : Nat) : List Hr := (List.range' 0 x.length).flatMap fun i => (pj x y R i).flatMap (ck x y R i)
theorem mem_pj (x y : List Int) (R i j : Nat) : j ∈ pj x y R i ↔ cnt x i = R ∧ j < y.length ∧ x[i]? = y[j]? := by
  unfold pj
  split
  · rename_i h
    simp [h, eq_comm]
  · rename_i h
    simp [h]
theorem mem_cands (x y : List Int) (R : Nat) (r : Hr) : r ∈ cands x y R ↔ ∃ i j, i < x.length ∧ j < y.length ∧ x[i]? = y[j]? ∧ cnt x i = R ∧ skp x R i (hd x y i j) = false ∧ r = runAt x y i j R := by
  unfold cands ck
  simp only [List.mem_flatMap, List.mem_range'_1, Nat.zero_add, mem_pj]
  constructor
  · rintro ⟨i, ⟨_, hi⟩, j, ⟨h1, h2, h3⟩, h⟩
    split at h
    · simp at h
    · rename_i hs
      simp at h
      exact ⟨i, j, hi, h2, h3, h1, by simpa using hs, h⟩
  · rintro ⟨i, j, h1, h2, h3, h4, h5, rfl⟩
    refine ⟨i, ⟨Nat.zero_le _, h1⟩, j, ⟨h4, h2, h3⟩, ?_⟩
    rw [h5]
    simp
/-- R is how often the rarest class stands that is in both -/
structure Rst (x y : List Int) (R : Nat) : Prop where
  le : ∀ i j, i < x.length → j < y.length → x[i]? = y[j]? → R ≤ cnt x i
  ex : ∃ i j, i < x.length ∧ j < y.length ∧ x[i]? = y[j]? ∧ cnt x i = R
section
variable {x y : List Int} {R : Nat}
theorem run_ge (h : Rst x y R) {r : Hr} (hr : IsRun x y r) : R ≤ r.R := by
  obtain ⟨k, h1, h2⟩ := rar_at x r.X r.N hr.pos
  rw [hr.r, h2]
  have h3 := tl_le x y r.X r.Y
  have h4 := hr.n
  exact h.le (r.X + k) (r.Y + k) (by omega) (by omega) (tl_same x y r.X r.Y k (by omega))
theorem runAt_run (h : Rst x y R) {i j : Nat} (hi : i < x.length) (hj : j < y.length) (he : x[i]? = y[j]?) (hc : cnt x i = R) : IsRun x y (runAt x y i j R) := by
  have h0 := hd_le x y i j
  have hn : tl x y (i - hd x y i j) (j - hd x y i j) = hd x y i j + tl x y i j := by
    have := tl_of x y (i - hd x y i j) (j - hd x y i j) (hd x y i j) (by omega) (by omega) (fun k hk => by
      have := hd_same x y i j (hd x y i j - 1 - k) (by omega)
      rw [show i - (hd x y i j - 1 - k + 1) = i - hd x y i j + k by omega, show j - (hd x y i j - 1 - k + 1) = j - hd x y i j + k by omega] at this
      exact this)
    rw [show i - hd x y i j + hd x y i j = i by omega, show j - hd x y i j + hd x y i j = j by omega] at this
    exact this
  have hpos : 0 < tl x y i j := by rw [tl_step, if_pos ⟨hi, hj, he⟩]; omega
  have hle := tl_le x y i j
  have hs : x[i - hd x y i j]? = y[j - hd x y i j]? := by
    have := tl_same x y (i - hd x y i j) (j - hd x y i j) 0 (by omega)
    simpa using this
  refine ⟨by show i - hd x y i j < _; omega, by show j - hd x y i j < _; omega, hs, hd_end x y i j, hn.symm, ?_⟩
  show R = rar x (i - hd x y i j) (hd x y i j + tl x y i j)
  have h1 := rar_le x (i - hd x y i j) (hd x y i j + tl x y i j) (hd x y i j) (by omega)
  rw [show i - hd x y i j + hd x y i j = i by omega, hc] at h1
  obtain ⟨k, h2, h3⟩ := rar_at x (i - hd x y i j) (hd x y i j + tl x y i j) (by omega)
  have h4 := h.le (i - hd x y i j + k) (j - hd x y i j + k) (by omega) (by omega) (tl_same x y _ _ k (by omega))
  omega
theorem cand_run (h : Rst x y R) {r : Hr} (hr : r ∈ cands x y R) : IsRun x y r ∧ r.R = R := by
  obtain ⟨i, j, h1, h2, h3, h4, _, rfl⟩ := (mem_cands x y R r).1 hr
  exact ⟨runAt_run h h1 h2 h3 h4, rfl⟩
theorem run_cand {r : Hr} (hr : IsRun x y r) (hR : r.R = R) : r ∈ cands x y R := by
  have h1 := tl_le x y r.X r.Y
  have hn := hr.n
  obtain ⟨k0, hk0, hk1⟩ := rar_at x r.X r.N hr.pos
  have hex : ∃ k, k < r.N ∧ cnt x (r.X + k) = R ∧ ∀ s, s < k → cnt x (r.X + s) ≠ R := by
    have : ∀ m, (∃ k, k < m ∧ k < r.N ∧ cnt x (r.X + k) = R) → ∃ k, k < r.N ∧ cnt x (r.X + k) = R ∧ ∀ s, s < k → cnt x (r.X + s) ≠ R := by
      intro m
      induction m with
      | zero => rintro ⟨k, hk, _⟩; omega
      | succ m ih =>
        rintro ⟨k, h1, h2, h3⟩
        by_cases he : ∃ k', k' < m ∧ k' < r.N ∧ cnt x (r.X + k') = R
        · exact ih he
        · refine ⟨k, h2, h3, fun s hs hc => he ⟨s, by omega, by omega, hc⟩⟩
    exact this (k0 + 1) ⟨k0, by omega, hk0, by rw [← hk1, ← hr.r, hR]⟩
  obtain ⟨k, hk, hkc, hks⟩ := hex
  have hsm := fun s (hs : s < r.N) => tl_same x y r.X r.Y s (by omega)
  have hhd : hd x y (r.X + k) (r.Y + k) = k := hd_of x y r.X r.Y k (fun s hs => hsm s (by omega)) hr.fst
  refine (mem_cands x y R r).2 ⟨r.X + k, r.Y + k, by omega, by omega, hsm k hk, hkc, ?_, ?_⟩
  · rw [hhd]
    unfold skp
    rw [List.any_eq_false]
    intro s hs
    rw [List.mem_range] at hs
    rw [show r.X + k - (s + 1) = r.X + (k - (s + 1)) by omega]
    simpa using hks (k - (s + 1)) (by omega)
  · have := tl_of x y r.X r.Y k (by omega) (by omega) (fun s hs => hsm s (by omega))
    unfold runAt
    rw [hhd]
    obtain ⟨X, Y, N, R'⟩ := r
    simp only at *
    subst hR
    congr 1
    · omega
    · omega
    · omega
/-- what the code finds is the one to hold on to -/
theorem code_best (h : Rst x y R) : Bst x y (pickL btC ⟨0, 0, 0, 0⟩ (cands x y R)) := by
  obtain ⟨h1, h2, h3⟩ := pickC_spec (cands x y R) ⟨0, 0, 0, 0⟩
  have hmem : pickL btC ⟨0, 0, 0, 0⟩ (cands x y R) ∈ cands x y R := by
    rcases h1 with h1 | h1
    · exfalso
      obtain ⟨i, j, g1, g2, g3, g4⟩ := h.ex
      have hr := runAt_run h g1 g2 g3 g4
      have := h3 _ (run_cand hr rfl)
      rw [h1] at this
      have hp := hr.pos
      simp [btC] at this
      omega
    · exact h1
  generalize pickL btC ⟨0, 0, 0, 0⟩ (cands x y R) = b at *
  obtain ⟨hb, hbR⟩ := cand_run h hmem
  refine ⟨hb, fun r hr => ?_⟩
  have hge := run_ge h hr
  by_cases e : r.R = R
  · have := h3 r (run_cand hr e)
    simp [btC] at this
    unfold hlt
    by_cases q : r.N = b.N ∧ r.X = b.X ∧ r.Y = b.Y
    · left
      obtain ⟨X, Y, N, R'⟩ := r
      obtain ⟨X2, Y2, N2, R2⟩ := b
      simp only at *
      obtain ⟨q1, q2, q3⟩ := q
      subst q1 q2 q3 e
      rw [hbR]
    · right
      omega
  · right
    unfold hlt
    omega
end
/-- the least number of times that a class of y stands in x, with what was found ahead of it; 0: none -/
def rs (x : List Int) : Nat → List Int → Nat
  | l, [] => l
  | l, c :: y => rs x (if 0 < x.count c ∧ (l = 0 ∨ x.count c < l) then x.count c else l) y
theorem rs_spec (x : List Int) (y : List Int) : ∀ l : Nat, (rs x l y = l ∨ ∃ c ∈ y, x.count c = rs x l y ∧ 0 < x.count c) ∧ (∀ c ∈ y, 0 < x.count c → 0 < rs x l y ∧ rs x l y ≤ x.count c) ∧ (0 < l → 0 < rs x l y ∧ rs x l y ≤ l) := by
  induction y with
  | nil => intro l; exact ⟨.inl rfl, fun c hc => by simp at hc, fun h => ⟨h, Nat.le_refl _⟩⟩
  | cons c y ih =>
    intro l
    rw [rs]
    obtain ⟨h1, h2, h3⟩ := ih (if 0 < x.count c ∧ (l = 0 ∨ x.count c < l) then x.count c else l)
    by_cases h : 0 < x.count c ∧ (l = 0 ∨ x.count c < l)
    · rw [if_pos h] at h1 h2 h3 ⊢
      refine ⟨.inr ?_, fun d hd hd0 => ?_, fun hl => ?_⟩
      · rcases h1 with h1 | ⟨d, hd, h1⟩
        · exact ⟨c, List.mem_cons_self .., h1.symm, h.1⟩
        · exact ⟨d, List.mem_cons_of_mem _ hd, h1⟩
      · rcases List.mem_cons.1 hd with rfl | hd
        · exact h3 h.1
        · exact h2 d hd hd0
      · have := h3 h.1
        omega
    · rw [if_neg h] at h1 h2 h3 ⊢
      refine ⟨?_, fun d hd hd0 => ?_, h3⟩
      · rcases h1 with h1 | ⟨d, hd, h1⟩
        · exact .inl h1
        · exact .inr ⟨d, List.mem_cons_of_mem _ hd, h1⟩
      · rcases List.mem_cons.1 hd with rfl | hd
        · have := h3 (by omega)
          omega
        · exact h2 d hd hd0
theorem rs_zero {x y : List Int} (h : rs x 0 y = 0) (r : Hr) : ¬ IsRun x y r := by
  intro hr
  have h2 := (rs_spec x y 0).2.1 (y[r.Y]'hr.hy) (List.getElem_mem hr.hy) (by
    have := hr.same
    rw [List.getElem?_eq_getElem hr.hx, List.getElem?_eq_getElem hr.hy] at this
    rw [← Option.some.inj this]
    exact List.count_pos_iff.2 (List.getElem_mem hr.hx))
  omega
theorem rs_rst {x y : List Int} {R : Nat} (hR : rs x 0 y = R) (h0 : 0 < R) : Rst x y R := by
  obtain ⟨h1, h2, _⟩ := rs_spec x y 0
  rw [hR] at h1 h2
  refine ⟨fun i j hi hj he => ?_, ?_⟩
  · rw [List.getElem?_eq_getElem hi, List.getElem?_eq_getElem hj] at he
    have hc : cnt x i = x.count x[i] := cnt_at (List.getElem?_eq_getElem hi)
    rw [hc]
    have := h2 y[j] (List.getElem_mem hj) (by rw [← Option.some.inj he]; exact List.count_pos_iff.2 (List.getElem_mem hi))
    rw [Option.some.inj he]
    exact this.2
  · rcases h1 with h1 | ⟨c, hc, h1, h3⟩
    · omega
    · obtain ⟨j, hj, ej⟩ := List.getElem_of_mem hc
      obtain ⟨i, hi, ei⟩ := List.getElem_of_mem (List.count_pos_iff.1 h3)
      refine ⟨i, j, hi, hj, by rw [List.getElem?_eq_getElem hi, List.getElem?_eq_getElem hj, ei, ej], ?_⟩
      rw [cnt_at (List.getElem?_eq_getElem hi), ei, h1]
end Go.Proofs.YtgiojkhmkeocfaaDoor

/- What an argument of type []int, []api.Change holds, and how much of it there is by the statement's own count. -/
namespace Go.Proofs.YtgiojkhmkeocfaaDoor
open Go.ChangeShapes Go.WideShapes Go.ChangeAt Go.RowKit

theorem own : ownKnob Tryd.prog.godebug = none := by kernel_rfl
theorem laidOut : laidOutB Tryd.prog = true := by kernel_rfl
theorem cellsInt : Tryd.prog.cellsOf 3 = 1 := by kernel_rfl
theorem cellsCh : Tryd.prog.cellsOf 73 = 4 := by kernel_rfl

/-- numbers that an int holds -/
def w64 (z : Int) : Prop := -9223372036854775808 ≤ z ∧ z ≤ 9223372036854775807
theorem w64_of {z : Int} (h : (Lit.int .i64 z).wf = true) : w64 z := bounds_i64 h
/-- a change of numbers that an int holds -/
def wCh (c : Ch) : Prop := w64 c.A ∧ w64 c.AN ∧ w64 c.B ∧ w64 c.BN

theorem lits_len {H : Type} (l : List Int) : l.length ≤ Rows.uptoBulkAll (lits (H := H) .i64 l) := by
  induction l with
  | nil => simp [lits, Rows.uptoBulkAll]
  | cons s t ih =>
    have e : lits (H := H) .i64 (s :: t) = .lit (.int .i64 s) :: lits .i64 t := rfl
    rw [e]
    simp only [Rows.uptoBulkAll, Rows.uptoBulk, List.length_cons]
    omega

theorem bulk_range {H : Type} (D : Nat → DataW H) (n : Nat) (h : ∀ i, i < n → 1 ≤ Rows.uptoBulk (D i)) : n ≤ Rows.uptoBulkAll ((List.range n).map D) := by
  have hall : ∀ l : List (DataW H), (∀ d ∈ l, 1 ≤ Rows.uptoBulk d) → l.length ≤ Rows.uptoBulkAll l := by
    intro l
    induction l with
    | nil => simp
    | cons d t ih =>
      intro hd
      have h1 := hd d (List.mem_cons_self ..)
      have h2 := ih fun x hx => hd x (List.mem_cons_of_mem _ hx)
      rw [Rows.uptoBulkAll]
      simp only [List.length_cons]
      omega
  have := hall ((List.range n).map D) (by
    intro d hd
    simp only [List.mem_map, List.mem_range] at hd
    obtain ⟨i, hi, rfl⟩ := hd
    exact h i hi)
  simpa using this

set_option maxRecDepth 10000 in
/-- the changes that an argument holds -/
theorem open_chs {H : Type} {enc : TypeId × Value → H} {W : World} {fuel : Nat} {ao : Option Addr} {len cap : Nat} {d : DataW H} {p : List MemPlace}
    (h : DataW.trod enc Tryd.prog W 0 (fun _ => true) true fuel 22 [.slice ao len cap] = some (d, p)) :
    ∃ l : List Ch, HCh W (.slice ao len cap) l ∧ l.length ≤ Rows.uptoBulk d ∧ ∀ c ∈ l, wCh c := by
  rcases Go.Deep.open_slice Tryd.underlying22 h with ⟨hcs, hx⟩ | ⟨a, l, c, m, n, D, Pl, hcs, _, hl, hm, hmm, hx, hel⟩
  · simp at hcs
    obtain ⟨rfl, rfl, rfl⟩ := hcs
    exact ⟨[], .inl ⟨rfl, rfl, rfl⟩, by simp, by simp⟩
  · simp at hcs
    obtain ⟨rfl, rfl, rfl⟩ := hcs
    simp only [Prod.mk.injEq] at hx
    obtain ⟨rfl, _⟩ := hx
    have hlm : len ≤ m := by rw [hmm]; split <;> omega
    have each : ∀ i, i < len → ∃ c : Ch, wCh c ∧ W.cell? (a.add (i * 4)) = some (.int .i64 c.A) ∧ W.cell? (a.add (i * 4 + 1)) = some (.int .i64 c.AN) ∧ W.cell? (a.add (i * 4 + 2)) = some (.int .i64 c.B) ∧ W.cell? (a.add (i * 4 + 3)) = some (.int .i64 c.BN) ∧ 1 ≤ Rows.uptoBulk (D i) := by
      intro i hi
      obtain ⟨cs', h1, h2⟩ := hel i (by omega)
      rw [cellsCh] at h1
      obtain ⟨_, hlen, hcell⟩ := World.cells?_some h1
      obtain ⟨xs, k, hk, hxy, _, hxl, hf⟩ := DataW.trod_struct Tryd.underlying73 h2
      match xs, hxl, cs', hlen with
      | [y0, y1, y2, y3], _, [v0, v1, v2, v3], _ =>
        have g0 := hf 0 _ rfl
        have g1 := hf 1 _ rfl
        have g2 := hf 2 _ rfl
        have g3 := hf 3 _ rfl
        simp [cellsInt] at g0 g1 g2 g3
        obtain ⟨z0, e0, _, w0⟩ := DataW.trod_int Tryd.underlying3 g0
        obtain ⟨z1, e1, _, w1⟩ := DataW.trod_int Tryd.underlying3 g1
        obtain ⟨z2, e2, _, w2⟩ := DataW.trod_int Tryd.underlying3 g2
        obtain ⟨z3, e3, _, w3⟩ := DataW.trod_int Tryd.underlying3 g3
        cases e0
        cases e1
        cases e2
        cases e3
        have c0 := hcell 0 (by omega)
        have c1 := hcell 1 (by omega)
        have c2 := hcell 2 (by omega)
        have c3 := hcell 3 (by omega)
        rw [Go.Deep.add_add] at c0 c1 c2 c3
        simp only [Prod.mk.injEq] at hxy
        refine ⟨⟨z0, z1, z2, z3⟩, ⟨w64_of w0, w64_of w1, w64_of w2, w64_of w3⟩, by simpa using c0, by simpa using c1, by simpa using c2, by simpa using c3, ?_⟩
        rw [hxy.1, Rows.uptoBulk]
        omega
    have : Inhabited Ch := ⟨⟨0, 0, 0, 0⟩⟩
    obtain ⟨f, hf⟩ := Go.Deep.choose_lt each
    have hlen : ((List.range len).map f).length = len := by simp
    refine ⟨(List.range len).map f, .inr ⟨a, cap, by rw [hlen], by rw [hlen]; exact hl, fun j u hj => ?_⟩, ?_, ?_⟩
    · have hj' : j < len * 4 := by
        have := (List.getElem?_eq_some_iff.1 hj).1
        rw [chcells_length, hlen] at this
        exact this
      obtain ⟨h0, h1, h2, h3⟩ := chcells_at ((List.range len).map f) (j / 4) (by rw [hlen]; omega)
      obtain ⟨_, g0, g1, g2, g3, _⟩ := hf (j / 4) (by omega)
      simp only [List.getElem_map, List.getElem_range] at h0 h1 h2 h3
      rcases (by omega : j = 4 * (j / 4) ∨ j = 4 * (j / 4) + 1 ∨ j = 4 * (j / 4) + 2 ∨ j = 4 * (j / 4) + 3) with e | e | e | e
      · rw [e, h0] at hj
        rw [e, Nat.mul_comm, g0, hj]
      · rw [e, h1] at hj
        rw [e, Nat.mul_comm, g1, hj]
      · rw [e, h2] at hj
        rw [e, Nat.mul_comm, g2, hj]
      · rw [e, h3] at hj
        rw [e, Nat.mul_comm, g3, hj]
    · rw [hlen, Rows.uptoBulk]
      have := bulk_range D len fun i hi => (hf i hi).2.2.2.2.2
      omega
    · intro c hc
      simp only [List.mem_map, List.mem_range] at hc
      obtain ⟨i, hi, rfl⟩ := hc
      exact (hf i hi).1
end Go.Proofs.YtgiojkhmkeocfaaDoor

/- How often each class stands: count and rarest, walked. -/
namespace Go.Proofs.YtgiojkhmkeocfaaDoor
open Go.RowKit Go.Maps

/-- a map that tells how often each class stands -/
structure Cnt {H : Type} (D : DataW H) (t : List Int) : Prop where
  tidy : Tidy D
  at_ : ∀ c, D.atKey (.int .i64 c) (.lit (.int .i64 0)) = .lit (.int .i64 (t.count c : Nat))
theorem Cnt.nil {H : Type} : Cnt (H := H) (.map []) [] := ⟨tidy_empty, fun _ => by rw [atKey_of_not_has rfl]; rfl⟩
theorem Cnt.put {H : Type} {D : DataW H} {t : List Int} (h : Cnt D t) (a : Int) : Cnt (D.put (.int .i64 a) (.lit (.int .i64 ((t.count a : Nat) + 1)))) (t ++ [a]) := by
  have hk : WideAt.IsKeyLit (.int .i64 a) := trivial
  have hne : ∀ {g : Int}, a ≠ g → (Lit.int .i64 g) ≠ .int .i64 a := fun hg e => hg (by cases e; rfl)
  refine ⟨h.tidy.put hk _, fun c => ?_⟩
  by_cases e : a = c
  · subst e
    rw [atKey_put_same h.tidy.isMap hk, List.count_append, List.count_singleton_self]
    rfl
  · rw [atKey_put_other (hne e), h.at_, List.count_append]
    have : [a].count c = 0 := by rw [List.count_eq_zero]; simp; exact fun q => e q.symm
    rw [this, Nat.add_zero]
theorem hKeyed : Keyed Tryd.prog 3 := int_keyed Tryd.underlying3
theorem hZero (w : World) : (zeroValue 3).run Tryd.prog w = .ok (.int .i64 0) w := by kernel_rfl
theorem hKey {c : Int} (hc : w64 c) : keyOf Tryd.prog 3 (.int .i64 c) = some (.int .i64 c) := keyOf_int_mk Tryd.underlying3 (WalkArith.wf_i64 hc)
/-- such a map in memory -/
def Mc (t : List Int) (B : Nat) (w : World) : Prop := ∃ D : DataW Unit, w.ownsMap Tryd.prog 3 (plainElem Tryd.prog 3) B t.length D ∧ Cnt D t
section
variable {t : List Int} {B : Nat} {w w' : World}
theorem Mc.lt (h : Mc t B w) : B < w.heap.size := by obtain ⟨D, hm, _⟩ := h; exact hm.lt
theorem Mc.keep (h : Mc t B w) (hb : w'.heap[B]? = w.heap[B]?) : Mc t B w' := by
  obtain ⟨D, ⟨es, clock, hm, r⟩, hd⟩ := h
  exact ⟨D, ⟨es, clock, hb.trans hm, r⟩, hd⟩
theorem Mc.low (h : Mc t B w) (hb : Below w.heap.size w w') : Mc t B w' := h.keep (hb.block B h.lt)
end

theorem rs_le (x : List Int) (y : List Int) : ∀ l : Nat, l ≤ x.length → rs x l y ≤ x.length := by
  induction y with
  | nil => intro l h; exact h
  | cons c y ih =>
    intro l h
    rw [rs]
    refine ih _ ?_
    split
    · exact List.count_le_length
    · exact h
end Go.Proofs.YtgiojkhmkeocfaaDoor

/- Pieces of slices of numbers, as values and as what they hold. -/
namespace Go.Proofs.YtgiojkhmkeocfaaDoor
open Go.RowKit

theorem cell_low {u u' : World} (h : Below u.heap.size u u') {a : Addr} {v : Value} (hc : u.cell? a = some v) : u'.cell? a = some v := by
  rw [World.cell?_of_block (w := u) (h.block _ (World.block_lt_of_cell? u _ hc))]
  exact hc
theorem addr_zero (ad : Addr) : ad.add 0 = ad := by unfold Addr.add; split <;> simp_all
/-- x[k:], x[:k] of a slice of numbers, as values -/
def slF (ao : Option Addr) (cap k : Nat) : Option Addr := if cap = k then ao else ao.map (·.add k)
theorem hold_cap {w : World} {ao : Option Addr} {n c : Nat} {xs : List Value} (h : Holds w (.slice ao n c) n xs) : n ≤ c := by
  rcases h with ⟨h, h0, _⟩ | ⟨ad, c', h, h3, _⟩
  · omega
  · cases h; exact h3
theorem hold_from {w : World} {ao : Option Addr} {n c k : Nat} {L : List Int} (h : Holds w (.slice ao n c) n (icells L)) (hl : L.length = n) (hk : k ≤ n) : Holds w (.slice (slF ao c k) (n - k) (c - k)) (n - k) (icells (L.drop k)) := by
  have hnc := hold_cap h
  rcases h with ⟨h, h0, h4⟩ | ⟨ad, c', h, h3, hc⟩
  · cases h
    have : L = [] := by simpa [icells] using h4
    subst this
    have : k = 0 := by omega
    subst this
    exact .inl ⟨by simp [slF], by simp, by simp [icells]⟩
  · cases h
    refine .inr ⟨if c = k then ad else ad.add k, c - k, by unfold slF; split <;> simp, by omega, fun j v hj => ?_⟩
    have hj' : (icells L)[k + j]? = some v := by
      simp only [icells, List.map_drop, List.getElem?_drop] at hj ⊢
      exact hj
    have hlt := (List.getElem?_eq_some_iff.1 hj').1
    rw [icells_length] at hlt
    rw [if_neg (by omega)]
    have h0 := hc 0 _ (List.getElem?_eq_getElem (by rw [icells_length]; omega))
    obtain ⟨b, off, rfl⟩ := addr_of h0
    have := hc _ _ hj'
    rw [add_none] at this
    rw [add_none, add_none, Nat.add_assoc]
    exact this
theorem hold_to {w : World} {ao : Option Addr} {n c k : Nat} {L : List Int} (h : Holds w (.slice ao n c) n (icells L)) (hl : L.length = n) (hk : k ≤ n) : Holds w (.slice ao k c) k (icells (L.take k)) := by
  have hnc := hold_cap h
  rcases h with ⟨h, h0, h4⟩ | ⟨ad, c', h, h3, hc⟩
  · cases h
    have : L = [] := by simpa [icells] using h4
    subst this
    have : k = 0 := by omega
    subst this
    exact .inl ⟨by simp, by simp, by simp [icells]⟩
  · cases h
    refine .inr ⟨ad, c, rfl, by omega, fun j v hj => hc j v ?_⟩
    rw [icells, List.map_take] at hj
    rw [icells]
    by_cases hjk : j < k
    · rw [List.getElem?_take_of_lt hjk] at hj
      exact hj
    · rw [List.getElem?_eq_none (by simp; omega)] at hj
      cases hj
theorem sub_drop (x : List Int) (a b k : Nat) : (sub x a b).drop k = sub x (a + k) b := by
  unfold sub
  rw [List.drop_take, List.drop_drop]
  congr 1
  omega
theorem sub_take (x : List Int) (a b k : Nat) (hk : a + k ≤ b) : (sub x a b).take k = sub x a (a + k) := by
  unfold sub
  rw [List.take_take]
  congr 1
  omega
theorem sub_all (x : List Int) : sub x 0 x.length = x := by simp [sub]

theorem hold_sub {w : World} {ao : Option Addr} {c l h : Nat} {x : List Int} (hx : HI w (.slice ao x.length c) x) (hl : l ≤ h) (hh : h ≤ x.length) : Holds w (.slice (slF ao c l) (h - l) (c - l)) (h - l) (icells (sub x l h)) := by
  have h1 := hold_from hx rfl (Nat.le_trans hl hh)
  have h2 := hold_to h1 (k := h - l) (by simp) (by omega)
  exact h2
/-- a row of one's own from B on is kept, where a block below B is written -/
theorem holds_grown {u u' : World} {B n : Nat} {e : TypeId} {s : Nat} {v : Value} {xs : List Value} (h : u.ownsRow B e s v n xs) {g : Nat} (hg : u.grownBy u' (some g)) (hB : g < B) : u'.ownsRow B e s v n xs := by
  refine h.kept hg ?_
  cases hb : v.ownBlock with
  | none => exact .inl rfl
  | some j =>
    have := owns_ge h hb
    exact .inr (fun q => by cases q; omega)
theorem Ls.lt {w u : World} {g n : Nat} {Z : List Int} (h : Ls w g n Z u) : w.heap.size ≤ g ∧ g < u.heap.size := by
  rcases h.own.2 with ⟨h1, _⟩ | ⟨g', cap, cur, h1, h2, h3, _⟩
  · cases h1
  · cases h1
    exact ⟨h2, (Array.getElem?_eq_some_iff.1 h3).1⟩
end Go.Proofs.YtgiojkhmkeocfaaDoor

/- Where the rarest classes stand: places and partners, walked. -/
namespace Go.Proofs.YtgiojkhmkeocfaaDoor
open Go.RowKit Go.Maps

/-- where a class stands in t, if it stands R times in x -/
def pl (x : List Int) (R : Nat) (t : List Int) (c : Int) : List Nat := if x.count c = R then (List.range t.length).filter (fun j => decide (t[j]? = some c)) else []
theorem pl_snoc (x : List Int) (R : Nat) (t : List Int) (a c : Int) : pl x R (t ++ [a]) c = if x.count a = R ∧ a = c then pl x R t c ++ [t.length] else pl x R t c := by
  unfold pl
  have hf : ((List.range t.length).filter fun j => decide ((t ++ [a])[j]? = some c)) = (List.range t.length).filter fun j => decide (t[j]? = some c) := by
    apply List.filter_congr
    intro j hj
    rw [List.mem_range] at hj
    rw [List.getElem?_append_left hj]
  by_cases h : x.count c = R
  · rw [if_pos h, if_pos h, List.length_append, List.length_singleton, List.range_succ, List.filter_append, hf]
    by_cases e : a = c
    · subst e
      rw [if_pos ⟨h, rfl⟩]
      congr 1
      simp
    · rw [if_neg (fun q => e q.2)]
      have : ([t.length].filter fun j => decide ((t ++ [a])[j]? = some c)) = [] := by simp [e]
      rw [this, List.append_nil]
  · rw [if_neg h, if_neg h]
    by_cases e : a = c
    · subst e
      rw [if_neg (fun q => h q.1)]
    · rw [if_neg (fun q => e q.2)]
theorem pl_nil (x : List Int) (R : Nat) (c : Int) : pl x R [] c = [] := by simp [pl]
theorem pl_le (x : List Int) (R : Nat) (t : List Int) (c : Int) : (pl x R t c).length ≤ t.length := by
  unfold pl
  split
  · exact Nat.le_trans (List.length_filter_le _ _) (by simp)
  · simp
theorem pl_pj (x y : List Int) (R i : Nat) (hi : i < x.length) : pl x R y x[i] = pj x y R i := by
  unfold pl pj
  rw [cnt_at (List.getElem?_eq_getElem hi), List.getElem?_eq_getElem hi]
/-- a list of places as numbers -/
def nI (l : List Nat) : List Int := l.map fun (n : Nat) => (n : Int)
theorem nI_append (a b : List Nat) : nI (a ++ b) = nI a ++ nI b := by simp [nI]
/-- a map that tells where the classes stand -/
structure Gd (D : DataW Unit) (f : Int → List Nat) : Prop where
  tidy : IsMap D
  at_ : ∀ c, D.atKey (.int .i64 c) .nil = if f c = [] then .nil else .slice (ChangeShapes.lits .i64 (nI (f c))) []
theorem lits_inj {a b : List Int} (h : ChangeShapes.lits (H := Unit) .i64 a = ChangeShapes.lits .i64 b) : a = b := by
  unfold ChangeShapes.lits at h
  exact (List.map_inj_right (fun u v huv => by cases huv; rfl)).1 h
theorem Gd.zs {D : DataW Unit} {f : Int → List Nat} (h : Gd D f) {w : World} {base : Nat} {e : TypeId} {v : Value} {zs : List Int} {c : Int} (ho : w.ownsInts base e .i64 v zs) (ha : D.atKey (.int .i64 c) .nil = rowDatum .i64 v zs) : zs = nI (f c) := by
  rw [h.at_] at ha
  rcases ho.datum (H := Unit) with ⟨h1, h2⟩ | h1
  · rw [h1] at ha
    by_cases e : f c = []
    · rw [h2, e]; rfl
    · rw [if_neg e] at ha; cases ha
  · rw [h1] at ha
    by_cases e : f c = []
    · rw [if_pos e] at ha; cases ha
    · rw [if_neg e] at ha
      injection ha with ha
      exact (lits_inj ha).symm
theorem Gd.nil (x : List Int) (R : Nat) : Gd (.map []) (pl x R []) := ⟨isMap_empty, fun c => by rw [atKey_of_not_has rfl, if_pos (pl_nil x R c)]⟩
theorem Gd.put {D : DataW Unit} {x : List Int} {R : Nat} {t : List Int} (h : Gd D (pl x R t)) {a : Int} (ha : x.count a = R) : Gd (D.put (.int .i64 a) (.slice (ChangeShapes.lits .i64 (nI (pl x R t a) ++ [(t.length : Int)])) [])) (pl x R (t ++ [a])) := by
  have hk : WideAt.IsKeyLit (.int .i64 a) := trivial
  have hne : ∀ {g : Int}, a ≠ g → (Lit.int .i64 g) ≠ .int .i64 a := fun hg e => hg (by cases e; rfl)
  refine ⟨h.tidy.put _ _, fun c => ?_⟩
  by_cases e : a = c
  · subst e
    have e2 : pl x R (t ++ [a]) a = pl x R t a ++ [t.length] := by rw [pl_snoc, if_pos ⟨ha, rfl⟩]
    rw [atKey_put_same h.tidy hk, e2, if_neg (by simp), nI_append]
    rfl
  · have e2 : pl x R (t ++ [a]) c = pl x R t c := by rw [pl_snoc, if_neg (fun q => e q.2)]
    rw [atKey_put_other (hne e), h.at_, e2]
theorem Gd.skip {D : DataW Unit} {x : List Int} {R : Nat} {t : List Int} (h : Gd D (pl x R t)) {a : Int} (ha : x.count a ≠ R) : Gd D (pl x R (t ++ [a])) := by
  refine ⟨h.tidy, fun c => ?_⟩
  have e2 : pl x R (t ++ [a]) c = pl x R t c := by rw [pl_snoc, if_neg (fun q => ha q.1)]
  rw [e2]
  exact h.at_ c
/-- such a map in memory, with rows of its own -/
def Gm (x : List Int) (R : Nat) (t : List Int) (b base : Nat) (w : World) : Prop := ∃ m D, m ≤ t.length ∧ w.ownsGroups Tryd.prog 3 base 3 .i64 b m D ∧ Gd D (pl x R t)
theorem run_makeRow {T E : TypeId} {z : Value} {bytes : Nat} (hT : Tryd.prog.underlying T = some (.slice E)) (hinfo : (Tryd.prog.info? E).map (fun i => (i.zero, i.size, i.bytes)) = some (some z, 1, bytes)) (hby : bytes ≤ 32) (n : Int) (N : Nat) (hn : n = (N : Int)) (hN : N ≤ 1099511627776) (W : World) :
    (Instr.makeSlice T (.int .i64 n) (.int .i64 n)).run Tryd.prog W = .ok (.slice (some ⟨W.heap.size, 0, none⟩) N N) (W.alloc (.cells (madeCells z.cells N) E)) := by
  subst hn
  obtain ⟨i0, hi, hz0, hzs, hz2⟩ := info_parts hinfo
  have h1 : i0.bytes * N ≤ 32 * 1099511627776 := by rw [hz2]; exact Nat.mul_le_mul hby hN
  have hr := run_make (P := Tryd.prog) W T E i0 z hT hi hz0 .i64 .i64 (N : Int) (N : Int) (by omega) (Int.le_refl _) (by
    have : ((i0.bytes * N : Nat) : Int) ≤ 281474976710656 := by omega
    rwa [Int.natCast_mul] at this) (by omega)
  simpa [hzs] using hr
theorem Gm.low {x : List Int} {R : Nat} {t : List Int} {b base : Nat} {w w' : World} (h : Gm x R t b base w) (hb : Below w.heap.size w w') : Gm x R t b base w' := by
  obtain ⟨m, D, h1, h2, h3⟩ := h
  exact ⟨m, D, h1, h2.kept (low_grown hb none) (by simp) (fun _ _ _ e _ => by cases e.val.ownBlock <;> simp), h3⟩
/-- rows of places, one for each member of x -/
def Prt (x y : List Int) (R base k : Nat) (vs : List Value) (w : World) : Prop := vs.length = x.length ∧ ∀ i, i < k → ∃ v, vs[i]? = some v ∧ w.ownsInts base 3 .i64 v (nI (pj x y R i))
theorem Prt.low {x y : List Int} {R base k : Nat} {vs : List Value} {w w' : World} (h : Prt x y R base k vs w) (hb : Below w.heap.size w w') : Prt x y R base k vs w' :=
  ⟨h.1, fun i hi => by obtain ⟨v, h1, h2⟩ := h.2 i hi; exact ⟨v, h1, h2.kept (low_grown hb none) (by cases v.ownBlock <;> simp)⟩⟩
end Go.Proofs.YtgiojkhmkeocfaaDoor

/- Small functions of the layer histogram: same, cmp.Compare, cmp.Or, outdoes, walked. -/
namespace Go.Proofs.YtgiojkhmkeocfaaDoor
open Go.RowKit

/-- how two numbers stand to one another -/
def cmpI (a b : Int) : Int := if a < b then -1 else if b < a then 1 else 0
/-- the first that is not nought -/
def orL : List Int → Int
  | [] => 0
  | a :: l => if a = 0 then orL l else a
theorem cmp_lt {a b : Nat} (h : a < b) : cmpI a b = -1 := by unfold cmpI; rw [if_pos (by omega)]
theorem cmp_gt {a b : Nat} (h : b < a) : cmpI a b = 1 := by unfold cmpI; rw [if_neg (by omega), if_pos (by omega)]
theorem cmp_eq {a b : Nat} (h : a = b) : cmpI a b = 0 := by unfold cmpI; rw [if_neg (by omega), if_neg (by omega)]
theorem or_bt (r b : Hr) : decide (0 < orL [cmpI r.N b.N, cmpI b.X r.X, cmpI b.Y r.Y]) = btC r b := by
  unfold btC
  rcases Nat.lt_trichotomy r.N b.N with h | h | h
  · rw [cmp_lt h]
    simp [orL]
    omega
  · rcases Nat.lt_trichotomy b.X r.X with h2 | h2 | h2
    · rw [cmp_eq h, cmp_lt h2]
      simp [orL]
      omega
    · rcases Nat.lt_trichotomy b.Y r.Y with h3 | h3 | h3
      · rw [cmp_eq h, cmp_eq h2, cmp_lt h3]
        simp [orL]
        omega
      · rw [cmp_eq h, cmp_eq h2, cmp_eq h3]
        simp [orL]
        omega
      · rw [cmp_eq h, cmp_eq h2, cmp_gt h3]
        simp [orL, h, h2, h3]
    · rw [cmp_eq h, cmp_gt h2]
      simp [orL, h, h2]
  · rw [cmp_gt h]
    simp [orL, h]
end Go.Proofs.YtgiojkhmkeocfaaDoor

/- Whether a run is rather held on to: outdoes, walked. -/
namespace Go.Proofs.YtgiojkhmkeocfaaDoor
open Go.RowKit

/-- a run as a value, and in a box -/
def hrV (r : Hr) : Value := .agg #[.int .i64 (r.X : Int), .int .i64 (r.Y : Int), .int .i64 (r.N : Int), .int .i64 (r.R : Int)]
section
variable {u u' : World} {B : Nat} {r : Hr}
end
end Go.Proofs.YtgiojkhmkeocfaaDoor

/- Going back along a run: plain. Steps of a region, by their equations. -/
namespace Go.Proofs.YtgiojkhmkeocfaaDoor
open Go.RowKit

theorem tl_fr (x y : List Int) : ∀ i j, i ≤ x.length → j ≤ y.length → tl x y i j = fr (x.drop i) (y.drop j) := by
  intro i j
  induction h : x.length - i generalizing i j with
  | zero =>
    intro h1 h2
    rw [tl_step, if_neg (by omega), List.drop_of_length_le (by omega)]
    simp [fr]
  | succ n ih =>
    intro h1 h2
    by_cases hy : j < y.length
    · rw [tl_step, List.drop_eq_getElem_cons (by omega : i < x.length), List.drop_eq_getElem_cons hy, fr, List.getElem?_eq_getElem (by omega), List.getElem?_eq_getElem hy]
      by_cases e : x[i] = y[j]
      · rw [if_pos ⟨by omega, hy, by rw [e]⟩, if_pos e, ih (i + 1) (j + 1) (by omega) (by omega) (by omega)]
      · rw [if_neg (fun q => e (by simpa using q.2.2)), if_neg e]
    · rw [tl_step, if_neg (by omega), List.drop_of_length_le (l := y) (by omega)]
      cases x.drop i <;> simp [fr]
/-- what is left of the candidates: of member i those from place k on, and all behind it -/
def restC (x y : List Int) (R i k : Nat) : List Hr := ((pj x y R i).drop k).flatMap (ck x y R i) ++ (List.range' (i + 1) (x.length - (i + 1))).flatMap fun i => (pj x y R i).flatMap (ck x y R i)
def restI (x y : List Int) (R i : Nat) : List Hr := (List.range' i (x.length - i)).flatMap fun i => (pj x y R i).flatMap (ck x y R i)
theorem restI_zero (x y : List Int) (R : Nat) : restI x y R 0 = cands x y R := by simp [restI, cands]
theorem restI_step (x y : List Int) (R i : Nat) (hi : i < x.length) : restI x y R i = restC x y R i 0 := by
  unfold restI restC
  rw [show x.length - i = (x.length - (i + 1)) + 1 by omega, List.range'_succ, List.flatMap_cons, List.drop_zero]
theorem restI_end (x y : List Int) (R i : Nat) (hi : x.length ≤ i) : restI x y R i = [] := by
  unfold restI
  rw [show x.length - i = 0 by omega]
  rfl
theorem restC_step (x y : List Int) (R i k : Nat) (hk : k < (pj x y R i).length) : restC x y R i k = ck x y R i (pj x y R i)[k] ++ restC x y R i (k + 1) := by
  unfold restC
  rw [List.drop_eq_getElem_cons hk, List.flatMap_cons, List.append_assoc]
theorem restC_end (x y : List Int) (R i k : Nat) (hk : (pj x y R i).length ≤ k) : restC x y R i k = restI x y R (i + 1) := by
  unfold restC restI
  rw [List.drop_of_length_le hk]
  rfl
theorem pickL_append (f : Hr → Hr → Bool) (b : Hr) (l m : List Hr) : pickL f b (l ++ m) = pickL f (pickL f b l) m := by simp [pickL]
/-- one candidate -/
theorem pick_ck (x y : List Int) (R i j : Nat) (b : Hr) (h : skp x R i (hd x y i j) = false) : pickL btC b (ck x y R i j) = if btC (runAt x y i j R) b then runAt x y i j R else b := by
  unfold ck
  rw [h]
  rfl
theorem pick_skip (x y : List Int) (R i j : Nat) (b : Hr) (h : skp x R i (hd x y i j) = true) : pickL btC b (ck x y R i j) = b := by
  unfold ck
  rw [h]
  rfl
theorem skp_true {x : List Int} {R i t s : Nat} (hs : s < t) (h : cnt x (i - (s + 1)) = R) : skp x R i t = true := by
  unfold skp
  rw [List.any_eq_true]
  exact ⟨s, List.mem_range.2 hs, by simpa using h⟩
theorem skp_false {x : List Int} {R i t : Nat} (h : ∀ s, s < t → cnt x (i - (s + 1)) ≠ R) : skp x R i t = false := by
  unfold skp
  rw [List.any_eq_false]
  intro s hs
  simpa using h s (List.mem_range.1 hs)
/-- a member that both texts have is one of the rarest just if it has partners -/
theorem pj_pos {x y : List Int} {R i j : Nat} (hj : j < y.length) (he : x[i]? = y[j]?) : 0 < (pj x y R i).length ↔ cnt x i = R := by
  rw [List.length_pos_iff_exists_mem]
  constructor
  · rintro ⟨k, hk⟩
    exact ((mem_pj x y R i k).1 hk).1
  · intro h
    exact ⟨j, (mem_pj x y R i j).2 ⟨h, hj, he⟩⟩

theorem exec_sub {u : World} {p q r : Int} (h : IntKind.i64.wrap (p - q) = r) {op : Oper} (x l : Operand) (ho : op.op = .binOp .sub 3 x l 3) {ev : Operand → Value} (hx : ev x = .int .i64 p) (hl : ev l = .int .i64 q) :
    (execOp ev op).run Tryd.prog u = .ok (.value (.int .i64 r)) u := by
  subst h
  simp only [execOp, ho, hx, hl]
  go_simp
theorem exec_add {u : World} {p q r : Int} (h : IntKind.i64.wrap (p + q) = r) {op : Oper} (x l : Operand) (ho : op.op = .binOp .add 3 x l 3) {ev : Operand → Value} (hx : ev x = .int .i64 p) (hl : ev l = .int .i64 q) :
    (execOp ev op).run Tryd.prog u = .ok (.value (.int .i64 r)) u := by
  subst h
  simp only [execOp, ho, hx, hl]
  go_simp
theorem exec_store {u : World} {a : Addr} {z z0 : Int} (h : u.cell? a = some (.int .i64 z0)) (hf : u.frozen? a = false) {op : Oper} (x l : Operand) (ho : op.op = .store 3 x l) {ev : Operand → Value} (hx : ev x = .pointer (some a)) (hl : ev l = .int .i64 z) :
    (execOp ev op).run Tryd.prog u = .ok .skip (u.setCell a (.int .i64 z)) := by
  simp only [execOp, ho, hx, hl]
  go_simp
theorem results_cell_tmp {P : Program} {fn : Func} {p q : Tmp} {ty : TypeId} (h : fn.results = #[.cell p ty, .tmp q]) (tmps : Array Value) (w : World) (g : Nat) (t : TypeId) (cs : Array Value) (fr : Nat × Nat) (d : TypeDesc)
    (hp : tmps.getD p undef = .pointer (some ⟨g, 0, none⟩)) (hg : w.heap[g]? = some (.cells cs t fr))
    (hu : P.underlying ty = some d) (hd : (match d with | .struct _ | .array _ _ => true | _ => false) = true) (hi : (P.info? ty).map (·.size) = some cs.size) :
    (results fn tmps).run P w = .ok (.tuple #[.agg cs, tmps.getD q undef]) w := by
  have hp' : tmps[p]?.getD undef = .pointer (some ⟨g, 0, none⟩) := by simpa using hp
  simp [results, h, hp', asAddr, run_loadVar_row w g t ty cs fr d hg hu hd hi]
end Go.Proofs.YtgiojkhmkeocfaaDoor
