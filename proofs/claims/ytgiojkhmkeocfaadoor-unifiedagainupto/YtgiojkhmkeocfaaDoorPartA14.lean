/-
  Texts that belong together, joined: CpJ, CpK, CpL, CpM, CpN, NpS, CpO, CpP, CwG, HuC2.
-/
import Derived.Test.YtgiojkhmkeocfaaDoorPartA13
import Derived.Test.YtgiojkhmkeocfaaDoorPartA5
import Derived.Test.YtgiojkhmkeocfaaDoorPartA4
import Derived.Defers
import Derived.Recover
import Derived.Test.YtgiojkhmkeocfaaDoorPartA8
import Derived.BigQuiet
import Derived.Test.YtgiojkhmkeocfaaDoorPartA12

/- The code's reader of layer 15: a hunk as the code reads it; the boxes of its sides. -/
namespace Go.Proofs.YtgiojkhmkeocfaaDoor
open Go.RowKit

/-- a side with its range: kinds and texts -/
def sidR (e sg : UInt8) (p : Nat) (ls : List (List UInt8)) : Except (Nat × Int) ((Int × Int) × Sde × Nat × List (List UInt8)) :=
  match rngC e p ls with
  | .error x => .error x
  | .ok (q, r) => match rdS sg (p + 1) r with
    | .error x => .error x
    | .ok (l, p1, r1) => .ok (q, l, p1, r1)
def mapR (X : Except (Nat × Int) ((Int × Int) × Sde × Nat × List (List UInt8))) : Except (Nat × Int) ((Int × Int) × List Mk × Nat × List (List UInt8)) :=
  match X with
  | .error x => .error x
  | .ok (q, x, p, r) => .ok (q, kM x, p, r)
theorem sid_R {e sg : UInt8} (h92 : sg ≠ 92) (p : Nat) (ls : List (List UInt8)) : sidX e sg p ls = mapR (sidR e sg p ls) := by
  unfold sidX sidR
  cases rngC e p ls with
  | error x => rfl
  | ok z =>
    obtain ⟨q, r⟩ := z
    dsimp only
    rw [side_code h92]
    cases rdS sg (p + 1) r with
    | error x => rfl
    | ok z => rfl
def finR (p p2 : Nat) (q1 q2 : Int × Int) (o w : Sde) (p4 : Nat) (r4 : List (List UInt8)) : Except (Nat × Int) (Hk × Nat × List (List UInt8)) :=
  match finH (p + 1) (p + 2) (p2 + 1) q1.1 (sayC q1).2 q2.1 (sayC q2).2 o w with
  | .error e => .error e
  | .ok h => .ok (h, p4, r4)
theorem hk_code (k p : Nat) (ls : List (List UInt8)) : cxH k p ls = match starsP k p ls with
    | .error e => .error e
    | .ok r => match sidR 42 45 (p + 1) r with
      | .error e => .error e
      | .ok (q1, o, p2, r2) => match sidR 45 43 p2 r2 with
        | .error e => .error e
        | .ok (q2, w, p4, r4) => finR p p2 q1 q2 o w p4 r4 := by
  unfold cxH starsP
  cases nxt p ls with
  | error e => rfl
  | ok z =>
    obtain ⟨s, r⟩ := z
    dsimp only
    by_cases h1 : isSt s = true
    · rw [if_pos h1, if_pos h1]
      by_cases h2 : 4096 ≤ k
      · rw [if_pos h2, if_pos h2]
      · rw [if_neg h2, if_neg h2]
        dsimp only
        unfold sidR
        rw [rng_bar]
        cases rngC 42 (p + 1) r with
        | error e => rfl
        | ok z =>
          obtain ⟨q1, r1⟩ := z
          dsimp only
          cases rdS 45 (p + 2) r1 with
          | error e => rfl
          | ok z =>
            obtain ⟨o, p2, r2⟩ := z
            dsimp only
            rw [rng_bar]
            cases rngC 45 p2 r2 with
            | error e => rfl
            | ok z =>
              obtain ⟨q2, r3⟩ := z
              dsimp only
              cases rdS 43 (p2 + 1) r3 with
              | error e => rfl
              | ok z => rfl
    · rw [if_neg h1, if_neg h1]
theorem rd_drop {sg : UInt8} (ls : List (List UInt8)) : ∀ {p p1 : Nat} {r : List (List UInt8)} {x : Sde}, rdS sg p ls = .ok (x, p1, r) → ∃ n, p1 = p + n ∧ r = ls.drop n ∧ n ≤ ls.length ∧ x.length ≤ n := by
  induction ls with
  | nil =>
    intro p p1 r x h
    simp only [rdS] at h
    injection h with h
    injection h with h1 h2
    injection h2 with h2 h3
    subst h1 h2 h3
    exact ⟨0, rfl, rfl, Nat.le_refl _, Nat.le_refl _⟩
  | cons s t ih =>
    intro p p1 r x h
    simp only [rdS] at h
    split at h
    · split at h
      · split at h
        · rename_i h3
          injection h with h
          injection h with h1 h2
          injection h2 with h2 h4
          subst h1 h2 h4
          cases t with
          | nil => cases h3.1
          | cons u t => exact ⟨2, rfl, rfl, by simp, by simp⟩
        · cases hr : rdS sg (p + 1) t with
          | error e => rw [hr] at h; cases h
          | ok z =>
            obtain ⟨l, p2, r2⟩ := z
            rw [hr] at h
            injection h with h
            injection h with h1 h2
            injection h2 with h2 h4
            subst h1 h2 h4
            obtain ⟨n, e1, e2, e3, e4⟩ := ih hr
            exact ⟨n + 1, by omega, by rw [e2]; rfl, by simp; omega, by simp; omega⟩
      · cases h
    · injection h with h
      injection h with h1 h2
      injection h2 with h2 h3
      subst h1 h2 h3
      exact ⟨0, rfl, rfl, Nat.zero_le _, Nat.le_refl _⟩
theorem rng_drop {e : UInt8} {p : Nat} {L r : List (List UInt8)} {q : Int × Int} (h : rngC e p (L.drop p) = .ok (q, r)) : r = L.drop (p + 1) ∧ p < L.length ∧ 0 ≤ q.1 ∧ q.1 ≤ q.2 ∧ q.2 ≤ 2147483647 := by
  unfold rngC barP at h
  cases hn : nxt p (L.drop p) with
  | error x => rw [hn] at h; cases h
  | ok z =>
    obtain ⟨s, r0⟩ := z
    rw [hn] at h
    obtain ⟨h1, h2, _⟩ := nxt_rest hn
    dsimp only at h
    split at h
    · cases h
    · rename_i heq
      split at heq
      · injection heq with heq
        injection heq with e1 e2
        split at h
        · split at h
          · cases h
          · rename_i q' hq
            injection h with h
            injection h with e3 e4
            obtain ⟨b1, b2, b3⟩ := nmC_ok (a := q'.1) (b := q'.2) hq
            subst e3
            exact ⟨by rw [← e4, ← e2, h1], h2, b1, b2, b3⟩
        · cases h
      · cases heq
theorem sidR_drop {e sg : UInt8} {p p1 : Nat} {L r : List (List UInt8)} {q : Int × Int} {x : Sde} (h : sidR e sg p (L.drop p) = .ok (q, x, p1, r)) : r = L.drop p1 ∧ p1 ≤ L.length ∧ x.length ≤ L.length ∧ p < p1 ∧ 0 ≤ q.1 ∧ q.1 ≤ q.2 ∧ q.2 ≤ 2147483647 := by
  unfold sidR at h
  cases hq : rngC e p (L.drop p) with
  | error z => rw [hq] at h; cases h
  | ok z =>
    obtain ⟨q0, r0⟩ := z
    rw [hq] at h
    obtain ⟨h1, h2, h3⟩ := rng_drop hq
    dsimp only at h
    cases hr : rdS sg (p + 1) r0 with
    | error z => rw [hr] at h; cases h
    | ok z =>
      obtain ⟨l, p2, r2⟩ := z
      rw [hr] at h
      injection h with h
      injection h with e1 e2
      injection e2 with e2 e3
      injection e3 with e3 e4
      subst e1 e2 e3 e4
      obtain ⟨n, f1, f2, f3, f4⟩ := rd_drop r0 hr
      rw [h1, List.length_drop] at f3
      exact ⟨by rw [f2, h1, List.drop_drop, f1], by omega, by omega, by omega, h3⟩
theorem stars_drop {k p : Nat} {L r : List (List UInt8)} (h : starsP k p (L.drop p) = .ok r) : r = L.drop (p + 1) ∧ p < L.length := by
  unfold starsP at h
  cases hn : nxt p (L.drop p) with
  | error x => rw [hn] at h; cases h
  | ok z =>
    obtain ⟨s, r0⟩ := z
    rw [hn] at h
    obtain ⟨h1, h2, _⟩ := nxt_rest hn
    dsimp only at h
    split at h
    · split at h
      · cases h
      · injection h with h
        exact ⟨by rw [← h, h1], h2⟩
    · cases h
/-- what is wrong with both sides, as the code finds it -/
theorem fin_code (at0 ato atw : Nat) (q1 q2 : Int × Int) (h1 : q1.1 ≤ q1.2) (h2 : q2.1 ≤ q2.2) (o w O V : Sde) (hO : oldF o w = O) (hV : newF o w = V) :
    finH at0 ato atw q1.1 (sayC q1).2 q2.1 (sayC q2).2 o w = if (sameS O && sameS V) = true then .error (at0, 50) else
      match rgX (cntR q1.1 q1.2 (kM O).length) (cntR q2.1 q2.2 (kM V).length) (decide (q1.1 = 0) && decide (0 < (kM O).length)) (decide (q2.1 = 0) && decide (0 < (kM V).length)) (ato : Int) (atw : Int) with
      | some (a, z) => .error (a.toNat, z)
      | none => match jnX O V with
        | none => .error (at0, 190)
        | some l => .ok ⟨q1.1, O.length, q2.1, V.length, l⟩ := by
  have hs : (sameS o = true ∧ sameS w = true) ↔ (sameS O && sameS V) = true := by
    rw [Bool.and_eq_true, ← hO, ← hV]
    unfold oldF newF
    have hk : ∀ x : Sde, sameS (keptS x) = true := fun x => by simp [sameS, keptS]
    by_cases ho : o = []
    · subst ho
      rw [if_pos rfl, if_neg (by simp)]
      exact ⟨fun h => ⟨hk _, h.2⟩, fun h => ⟨rfl, h.2⟩⟩
    · rw [if_neg ho]
      by_cases hw : w = []
      · subst hw
        rw [if_pos ⟨ho, rfl⟩]
        exact ⟨fun h => ⟨h.1, hk _⟩, fun h => ⟨h.1, rfl⟩⟩
      · rw [if_neg (fun h => hw h.2)]
  unfold finH
  rw [hO, hV]
  have c1 := cnt_code h1 O
  have c2 := cnt_code h2 V
  have e1 : sayC (q1.1, q1.2) = sayC q1 := rfl
  have e2 : sayC (q2.1, q2.2) = sayC q2 := rfl
  rw [e1] at c1
  rw [e2] at c2
  have d1 : cntS (sayC q1).2 O = !cntR q1.1 q1.2 (kM O).length := by rw [c1, kM_len]; rfl
  have d2 : cntS (sayC q2).2 V = !cntR q2.1 q2.2 (kM V).length := by rw [c2, kM_len]; rfl
  rw [d1, d2]
  have n1 : (q1.1 = 0 ∧ O ≠ []) ↔ (decide (q1.1 = 0) && decide (0 < (kM O).length)) = true := by
    rw [Bool.and_eq_true, decide_eq_true_eq, decide_eq_true_eq, kM_len, List.length_pos_iff]
  have n2 : (q2.1 = 0 ∧ V ≠ []) ↔ (decide (q2.1 = 0) && decide (0 < (kM V).length)) = true := by
    rw [Bool.and_eq_true, decide_eq_true_eq, decide_eq_true_eq, kM_len, List.length_pos_iff]
  generalize (decide (q1.1 = 0) && decide (0 < (kM O).length)) = z1 at n1
  generalize (decide (q2.1 = 0) && decide (0 < (kM V).length)) = z2 at n2
  generalize cntR q1.1 q1.2 (kM O).length = r1
  generalize cntR q2.1 q2.2 (kM V).length = r2
  by_cases hss : sameS o = true ∧ sameS w = true
  · rw [if_pos hss, if_pos (hs.1 hss)]
  · rw [if_neg hss, if_neg (fun h => hss (hs.2 h))]
    unfold rgX
    cases r1 with
    | false => simp
    | true =>
      cases r2 with
      | false => simp
      | true =>
        cases z1 with
        | true => rw [if_neg (by simp), if_neg (by simp), if_pos (n1.2 rfl)]; simp
        | false =>
          have n1' : ¬ (q1.1 = 0 ∧ O ≠ []) := fun h => by have := n1.1 h; cases this
          rw [if_neg (by simp), if_neg (by simp), if_neg n1']
          cases z2 with
          | true => rw [if_pos (n2.2 rfl)]; simp
          | false =>
            have n2' : ¬ (q2.1 = 0 ∧ V ≠ []) := fun h => by have := n2.1 h; cases this
            rw [if_neg n2']
            simp only [Bool.true_eq_false, if_false, Bool.false_eq_true]
            rfl
end Go.Proofs.YtgiojkhmkeocfaaDoor

/- The code's reader of layer 15, walked: a hunk. -/
namespace Go.Proofs.YtgiojkhmkeocfaaDoor
open Go.RowKit

section
variable {wa u u' : World} {R S1 S2 : Nat} {vL v1 v2 : Value} {x1 a1 b1 x2 a2 b2 : Int} {l1 l2 : List Mk} {p : Nat}
end
def zhk : Hk := ⟨0, 0, 0, 0, []⟩
theorem rgX_at {r0 r1 z0 z1 : Bool} {x0 x1 a z : Int} (h : rgX r0 r1 z0 z1 x0 x1 = some (a, z)) : a = x0 ∨ a = x1 := by
  unfold rgX at h
  split at h
  · injection h with h; injection h with h; exact .inl h.symm
  · split at h
    · injection h with h; injection h with h; exact .inr h.symm
    · split at h
      · injection h with h; injection h with h; exact .inl h.symm
      · split at h
        · injection h with h; injection h with h; exact .inr h.symm
        · cases h
def five (u : World) (b : Nat) (A AN B BN : Int) (z : Value) : World := ((((u.setCell ⟨b, 0, none⟩ (.int .i64 A)).setCell ⟨b, 1, none⟩ (.int .i64 AN)).setCell ⟨b, 2, none⟩ (.int .i64 B)).setCell ⟨b, 3, none⟩ (.int .i64 BN)).setCell ⟨b, 4, none⟩ z
theorem five_cells {w wa u : World} {R : Nat} (hg : wa.grownBy u (some R)) (hZ : wa.heap[w.heap.size]? = some (hkO zhk (.slice none 0 0)) ∧ w.heap.size < wa.heap.size ∧ w.heap.size ≠ R) (Q : Nat) (hQ : w.heap.size = Q) :
    u.cell? ⟨Q, 0, none⟩ = some (.int .i64 0) ∧ u.cell? ⟨Q, 1, none⟩ = some (.int .i64 0) ∧ u.cell? ⟨Q, 2, none⟩ = some (.int .i64 0) ∧ u.cell? ⟨Q, 3, none⟩ = some (.int .i64 0) ∧ u.cell? ⟨Q, 4, none⟩ = some (.slice none 0 0) ∧ ∀ j, u.frozen? ⟨Q, j, none⟩ = false := by
  obtain ⟨h1, h2, h3⟩ := hZ
  have hb : u.heap[w.heap.size]? = some (.cells #[.int .i64 0, .int .i64 0, .int .i64 0, .int .i64 0, .slice none 0 0] 43) := (hg.block _ h2 (fun e => h3 (Option.some.inj e))).trans h1
  rw [hQ] at hb
  refine ⟨?_, ?_, ?_, ?_, ?_, fun j => Lib.frozen_of_heap hb j⟩ <;> rw [Lib.cell_of_heap hb] <;> rfl
/-- what a hunk's lines come to -/
def outX (p p4 : Nat) (r4 : List (List UInt8)) (s : Bool) (Yr : Option (Int × Int)) (Yj : Option (List Mk)) (a1 a2 : Int) (n1 n2 : Nat) : Except (Nat × Int) (Hk × Nat × List (List UInt8)) :=
  if s = true then .error (p + 1, 50) else match Yr with
  | some (a, z) => .error (a.toNat, z)
  | none => match Yj with
    | none => .error (p + 1, 190)
    | some l => .ok (⟨a1, n1, a2, n2, l⟩, p4, r4)
end Go.Proofs.YtgiojkhmkeocfaaDoor

/- The code's reader of layer 15: a patch as the code reads it; its box and the rows of its hunks. -/
namespace Go.Proofs.YtgiojkhmkeocfaaDoor
open Go.RowKit

theorem cxH_drop {k p : Nat} {L r : List (List UInt8)} {h : Hk} {p1 : Nat} (hk : k ≤ 4096) (hh : cxH k p (L.drop p) = .ok (h, p1, r)) : r = L.drop p1 ∧ p < p1 ∧ p1 ≤ L.length ∧ k < 4096 := by
  rw [hk_code] at hh
  cases hs : starsP k p (L.drop p) with
  | error e => rw [hs] at hh; cases hh
  | ok r0 =>
    obtain ⟨rfl, hp⟩ := stars_drop hs
    rw [hs] at hh
    dsimp only at hh
    have hk2 : k < 4096 := by
      unfold starsP at hs
      cases hn : nxt p (L.drop p) with
      | error x => rw [hn] at hs; cases hs
      | ok z =>
        obtain ⟨s, r1⟩ := z
        rw [hn] at hs
        dsimp only at hs
        split at hs
        · split at hs
          · cases hs
          · omega
        · cases hs
    cases h1 : sidR 42 45 (p + 1) (L.drop (p + 1)) with
    | error e => rw [h1] at hh; cases hh
    | ok z =>
      obtain ⟨q1, o, p2, r2⟩ := z
      obtain ⟨rfl, b1, _, b2, _⟩ := sidR_drop h1
      rw [h1] at hh
      dsimp only at hh
      cases h2 : sidR 45 43 p2 (L.drop p2) with
      | error e => rw [h2] at hh; cases hh
      | ok z =>
        obtain ⟨q2, w, p4, r4⟩ := z
        obtain ⟨rfl, c1, _, c2, _⟩ := sidR_drop h2
        rw [h2] at hh
        dsimp only at hh
        unfold finR at hh
        split at hh
        · cases hh
        · injection hh with hh
          injection hh with e1 e2
          injection e2 with e2 e3
          subst e2 e3
          exact ⟨rfl, by omega, c1, hk2⟩
/-- hunks ahead of what is left -/
def thenX (l : List Hk) (X : Except (Nat × Int) (List Hk × Nat × List (List UInt8))) : Except (Nat × Int) (List Hk × Nat × List (List UInt8)) :=
  match X with
  | .error e => .error e
  | .ok (m, p, r) => .ok (l ++ m, p, r)
theorem thenX_nil (X : Except (Nat × Int) (List Hk × Nat × List (List UInt8))) : thenX [] X = X := by
  rcases X with e | ⟨l, p, r⟩ <;> rfl
/-- behind a hunk -/
def conH (f k p : Nat) (r : List (List UInt8)) : Except (Nat × Int) (List Hk × Nat × List (List UInt8)) := if pkS r = true then cxHs f k p r else .ok ([], p, r)
theorem cxHs_step (f k p : Nat) (ls : List (List UInt8)) (l : List Hk) : thenX l (cxHs (f + 1) k p ls) = match cxH k p ls with
    | .error e => .error e
    | .ok (h, p1, r) => thenX (l ++ [h]) (conH f (k + 1) p1 r) := by
  simp only [cxHs]
  cases cxH k p ls with
  | error e => rfl
  | ok z =>
    obtain ⟨h, p1, r⟩ := z
    dsimp only
    unfold conH
    split
    · cases cxHs f (k + 1) p1 r with
      | error e => rfl
      | ok z => simp [thenX]
    · simp [thenX]
/-- what is still to be read of a patch's hunks -/
def lefH (P : List (Hk × Value)) (f p : Nat) (r : List (List UInt8)) : Except (Nat × Int) (List Hk × Nat × List (List UInt8)) := thenX (P.map (·.1)) (if P = [] then cxHs f 0 p r else conH f P.length p r)
/-- a patch; so many are ahead of it -/
def patP (k p : Nat) (ls : List (List UInt8)) : Except (Nat × Int) (Pth × Nat × List (List UInt8)) :=
  match namP [42, 42, 42, 32] p ls with
  | .error e => .error e
  | .ok (n1, r1) => if 64 ≤ k then .error (p + 1, 9) else match namP [45, 45, 45, 32] (p + 1) r1 with
    | .error e => .error e
    | .ok (n2, r2) => match cxHs (r2.length + 1) 0 (p + 2) r2 with
      | .error e => .error e
      | .ok (hs, p3, r3) => .ok (⟨n1, n2, hs⟩, p3, r3)
theorem cxPs_step (f k p : Nat) (ls : List (List UInt8)) : cxPs (f + 1) k p ls = if ls = [] then .ok [] else match patP k p ls with
    | .error e => .error e
    | .ok (x, p3, r3) => match cxPs f (k + 1) p3 r3 with
      | .error e => .error e
      | .ok l => .ok (x :: l) := by
  simp only [cxPs]
  split
  · rfl
  · unfold patP
    cases namP [42, 42, 42, 32] p ls with
    | error e => rfl
    | ok z =>
      obtain ⟨n1, r1⟩ := z
      dsimp only
      split
      · rfl
      · cases namP [45, 45, 45, 32] (p + 1) r1 with
        | error e => rfl
        | ok z =>
          obtain ⟨n2, r2⟩ := z
          dsimp only
          cases cxHs (r2.length + 1) 0 (p + 2) r2 with
          | error e => rfl
          | ok z => rfl
theorem nam_drop {hd : List UInt8} {p : Nat} {L r : List (List UInt8)} {n : List UInt8} (h : namP hd p (L.drop p) = .ok (n, r)) : r = L.drop (p + 1) ∧ p < L.length := by
  unfold namP at h
  cases hn : nxt p (L.drop p) with
  | error x => rw [hn] at h; cases h
  | ok z =>
    obtain ⟨s, r0⟩ := z
    rw [hn] at h
    obtain ⟨h1, h2, _⟩ := nxt_rest hn
    dsimp only at h
    split at h
    · split at h
      · cases h
      · injection h with h
        injection h with e1 e2
        exact ⟨by rw [← e2, h1], h2⟩
    · cases h

section
variable {wb u u' : World} {R S : Nat} {vL hv : Value} {n1 n2 : List UInt8} {P : List (Hk × Value)} {p p' : Nat}
end
end Go.Proofs.YtgiojkhmkeocfaaDoor

/- The code's reader of layer 15, walked: a patch. -/
namespace Go.Proofs.YtgiojkhmkeocfaaDoor
open Go.RowKit

/-- a call within a region that draws its order -/
theorem step_callR {ops : Array Oper} {o : Oper} {a : Act} {w : World} {K : Act → World → Prop} {Q : Exit → Act → World → Prop} {X : Prop} (hgd : o.guard = none)
    (F : Nat) (x : Operand) (xs : Array Operand) (ts : Array TypeId) (ho : o.op = .call { callee := .value x, args := xs, argTypes := ts }) (hxv : a.eval x = .func (.func F) #[] #[]) (args : Array Value) (hx : xs.map a.eval = args)
    (hen : ∀ args w, (callFunc F args).run Tryd.prog w = .ok (.enter F args) w) (Z : Ending → World → Prop) (hc : Calls Tryd.prog F args w Z)
    (h : ∀ e w', Z e w' → match e with
      | .returned v => K (a.put o.dst v) w'
      | .panicked c => Q (.panic c) a w'
      | .outgrown => LetsOut Q) :
    if Region.wanted o (yielded ops a.tmps) = true then Oper.wp Tryd.prog o a w K Q else X := by
  have hw : Region.wanted o (yielded ops a.tmps) = true := by simp [Region.wanted, hgd]
  rw [if_pos hw]
  unfold Oper.wp
  have h1 := hen args w
  have h2 : (execOp a.eval o).run Tryd.prog w = .ok (.enter F args) w := by
    simp only [execOp, ho, resolve, invoke]
    simp only [hxv, Deferred.ofValue, Sem.run_bind, Sem.run_pure, Result.andThen_ok, hx, Array.empty_append, Array.append_empty]
    exact h1
  rw [h2, Oper.upon_enter]
  refine hc.mono ?_
  intro e w' hz
  have := h e w' hz
  cases e <;> exact this
theorem step_append_wR {ops : Array Oper} {o : Oper} {a : Act} {K : Act → World → Prop} {Q : Exit → Act → World → Prop} {X : Prop} (w : World) (hgd : o.guard = none) (s x : Operand) (T E : TypeId) (z : Value) (size bytes : Nat)
    (ho : o.op = .call { callee := .builtin .append, args := #[s, x], argTypes := #[T, T] }) (hT : Tryd.prog.underlying T = some (.slice E)) (hinfo : (Tryd.prog.info? E).map (fun i => (i.zero, i.size, i.bytes)) = some (some z, size, bytes)) (hz1 : z.cells.size = size) (hsz : 0 < size) (hby : bytes ≤ 64)
    (base : Nat) (v : Value) (k : Nat) (xs : List Value) (hs : a.eval s = v) (hown : w.ownsRow base E size v k xs) (vx : Value) (m : Nat) (news : List Value) (hx : a.eval x = vx) (hh : Holds w vx m news) (hl : news.length = m * size)
    (h1 : ∀ u ∈ news, u.oneCell' = true) (hk : k + m ≤ 2199023255552) (hbase : base ≤ w.heap.size)
    (h : ∀ v' w', w'.ownsRow base E size v' (k + m) (xs ++ news) → w.grownBy w' v.ownBlock → K (a.put o.dst v') w') :
    if Region.wanted o (yielded ops a.tmps) = true then Oper.wp Tryd.prog o a w K Q else X := by
  have hw : Region.wanted o (yielded ops a.tmps) = true := by simp [Region.wanted, hgd]
  rw [if_pos hw]
  obtain ⟨v', w', hr, h2, h3, _⟩ := run_append_w w T E o.type z size bytes hT hinfo hz1 hsz hby base v k xs hown vx m news hh hl h1 hk hbase
  unfold Oper.wp
  simp [execOp, ho, resolve, invoke, builtin, hs, hx, hr, Result.andThen]
  exact h v' w' h2 h3
theorem call_entersR {P : Program} {A : Act} {op : Oper} {w : World} {F : Nat} {x : Operand} {xs : Array Operand} {ts : Array TypeId} (ho : op.op = .call { callee := .value x, args := xs, argTypes := ts }) {cap : Array Value} (hxv : A.eval x = .func (.func F) #[] cap) {args : Array Value} (hx : xs.map A.eval = args) (hen : ∀ args w, (callFunc F args).run P w = .ok (.enter F args) w) : (execOp A.eval op).run P w = .ok (.enter F (args ++ cap)) w := by
  have h1 := hen (args ++ cap) w
  simp only [execOp, ho, resolve, invoke]
  simp only [hxv, Deferred.ofValue, Sem.run_bind, Sem.run_pure, Result.andThen_ok, hx, Array.empty_append]
  exact h1
theorem go_callR {P : Program} {S : World → Prop} {md : Region.Mode} {ops : Array Oper} {Q : Exit → Act → World → Prop} {fuel : Nat} {listed : Array Bool} {A : Act} {w : World}
    (i d : Nat) (op : Oper) (hi : ops[i]? = some op) (hd : op.dst = some d) (hr : Region.ready md ops listed = [i]) (hwt : Region.wanted op (yielded ops A.tmps) = true)
    (F : Nat) (x : Operand) (xs : Array Operand) (ts : Array TypeId) (ho : op.op = .call { callee := .value x, args := xs, argTypes := ts })
    (cap : Array Value) (hxv : A.eval x = .func (.func F) #[] cap) (args : Array Value) (hx : xs.map A.eval = args) (hen : ∀ args w, (callFunc F args).run P w = .ok (.enter F args) w) (R : Value → World → Prop) (Pn : List PanicEntry → World → Prop)
    (hp : ∀ c w', Pn c w' → Q (.panic c) A w')
    (hc : Calls P F (args ++ cap) w fun e w' => (∃ v, e = .returned v ∧ S w' ∧ R v w') ∨ (∃ c, e = .panicked c ∧ Pn c w'))
    (h : ∀ v w', S w' → R v w' → wpAnyH P md ops Q S fuel (listed.setIfInBounds i true) (A.put (some d) v) w') :
    wpAnyH P md ops Q S (fuel + 1) listed A w := by
  refine wpAnyH_ready hr (by simp) (AllReadyH.cons hi (fun K hK => ?_) AllReadyH.nil)
  refine step_want hwt ?_
  unfold Oper.wp
  rw [call_entersR ho hxv hx hen, Oper.upon_enter]
  refine hc.mono ?_
  rintro e w' (⟨v, rfl, hb, hR⟩ | ⟨c, rfl, hpn⟩)
  · exact hK.out _ _ hb (fun hu => by rw [hd]; exact h v w' hu hR)
  · exact hp c w' hpn
theorem go_valCallR {P : Program} {S : World → Prop} {md : Region.Mode} {ops : Array Oper} {Q : Exit → Act → World → Prop} {fuel : Nat} {listed : Array Bool} {A : Act} {w : World}
    (j e : Nat) (oq : Oper) (i d : Nat) (op : Oper) (hj : ops[j]? = some oq) (he : oq.dst = some e) (hi : ops[i]? = some op) (hd : op.dst = some d) (hr : Region.ready md ops listed = [j, i]) (hwq : Region.wanted oq (yielded ops A.tmps) = true) (hwt : Region.wanted op (yielded ops A.tmps) = true)
    (vq : Value) (wq : World) (hq : (execOp A.eval oq).run P w = .ok (.value vq) wq) (hS : S wq)
    (F : Nat) (x : Operand) (xs : Array Operand) (ts : Array TypeId) (ho : op.op = .call { callee := .value x, args := xs, argTypes := ts })
    (cap : Array Value) (hxv : A.eval x = .func (.func F) #[] cap) (args : Array Value) (hx : xs.map A.eval = args) (hen : ∀ args w, (callFunc F args).run P w = .ok (.enter F args) w) (R : Value → World → Prop) (Pn : List PanicEntry → World → Prop)
    (hp : ∀ c w', Pn c w' → Q (.panic c) A w')
    (hc : Calls P F (args ++ cap) w fun e w' => (∃ v, e = .returned v ∧ S w' ∧ R v w') ∨ (∃ c, e = .panicked c ∧ Pn c w'))
    (h2 : wpAnyH P md ops Q S fuel (listed.setIfInBounds j true) (A.put (some e) vq) wq)
    (h : ∀ v w', S w' → R v w' → wpAnyH P md ops Q S fuel (listed.setIfInBounds i true) (A.put (some d) v) w') :
    wpAnyH P md ops Q S (fuel + 1) listed A w := by
  refine wpAnyH_ready hr (by simp) (AllReadyH.cons hj (fun K hK => ?_) (AllReadyH.cons hi (fun K hK => ?_) AllReadyH.nil))
  · refine step_want hwq ?_
    unfold Oper.wp
    rw [hq, Oper.upon_value]
    exact hK.out _ _ hS (fun _ => by rw [he]; exact h2)
  · refine step_want hwt ?_
    unfold Oper.wp
    rw [call_entersR ho hxv hx hen, Oper.upon_enter]
    refine hc.mono ?_
    rintro e w' (⟨v, rfl, hb, hR⟩ | ⟨c, rfl, hpn⟩)
    · exact hK.out _ _ hb (fun hu => by rw [hd]; exact h v w' hu hR)
    · exact hp c w' hpn
theorem load_hksR {u : World} {a : Addr} {o : Option Addr} {n c : Nat} (h : u.cell? a = some (.slice o n c)) {op : Oper} (x : Operand) (ho : op.op = .load 29 x) {ev : Operand → Value} (hx : ev x = .pointer (some a)) :
    (execOp ev op).run Tryd.prog u = .ok (.value (.slice o n c)) u := by
  simp only [execOp, ho, hx]
  go_simp
theorem exec_storeHR {u : World} {a : Addr} {v0 : Value} (hc : u.cell? a = some v0) (hf : u.frozen? a = false) {o : Option Addr} {n c : Nat} {op : Oper} (x y : Operand) (ho : op.op = .store 29 x y) {ev : Operand → Value} (hx : ev x = .pointer (some a)) (hy : ev y = .slice o n c) :
    (execOp ev op).run Tryd.prog u = .ok .skip (u.setCell a (.slice o n c)) := by
  simp only [execOp, ho, hx, hy]
  go_simp
def zpO : Obj := .cells #[.string ⟨#[]⟩, .string ⟨#[]⟩, .slice none 0 0] 46
def mkP (n1 n2 : List UInt8) (Y : Except (Nat × Int) (List Hk × Nat × List (List UInt8))) : Except (Nat × Int) (Pth × Nat × List (List UInt8)) :=
  match Y with
  | .error e => .error e
  | .ok (hs, p3, r3) => .ok (⟨n1, n2, hs⟩, p3, r3)
/-- a further hunk is to be read -/
theorem lef_go {P : List (Hk × Value)} {f p : Nat} {r : List (List UInt8)} (h : (decide (P = []) || pkS r) = true) : lefH P (f + 1) p r = match cxH P.length p r with
    | .error e => .error e
    | .ok (x, p1, r1) => thenX (P.map (·.1) ++ [x]) (conH f (P.length + 1) p1 r1) := by
  unfold lefH
  by_cases hP : P = []
  · rw [if_pos hP, cxHs_step, hP]
    rfl
  · rw [if_neg hP]
    have hk : pkS r = true := by simpa [hP] using h
    unfold conH
    rw [if_pos hk, cxHs_step]
    rfl
theorem lef_no {P : List (Hk × Value)} {f p : Nat} {r : List (List UInt8)} (h : (decide (P = []) || pkS r) = false) : lefH P f p r = .ok (P.map (·.1), p, r) := by
  rw [Bool.or_eq_false_iff, decide_eq_false_iff_not] at h
  unfold lefH conH
  rw [if_neg h.1, if_neg (by rw [h.2]; decide)]
  simp [thenX]
theorem lef_more {P : List (Hk × Value)} {f p : Nat} {r : List (List UInt8)} (x : Hk) (y : Value) : lefH (P ++ [(x, y)]) f p r = thenX (P.map (·.1) ++ [x]) (conH f (P.length + 1) p r) := by
  unfold lefH
  rw [if_neg (by simp), List.map_append, List.length_append]
  rfl
def three (u : World) (Q : Nat) (n1 n2 : List UInt8) (v : Value) : World := ((u.setCell ⟨Q, 0, none⟩ (.string ⟨n1.toArray⟩)).setCell ⟨Q, 1, none⟩ (.string ⟨n2.toArray⟩)).setCell ⟨Q, 2, none⟩ v
theorem three_cells {w wb u : World} {R : Nat} (hg : wb.grownBy u (some R)) (hZ : wb.heap[w.heap.size]? = some zpO ∧ w.heap.size < wb.heap.size ∧ w.heap.size ≠ R) (Q : Nat) (hQ : w.heap.size = Q) :
    u.cell? ⟨Q, 0, none⟩ = some (.string ⟨#[]⟩) ∧ u.cell? ⟨Q, 1, none⟩ = some (.string ⟨#[]⟩) ∧ u.cell? ⟨Q, 2, none⟩ = some (.slice none 0 0) ∧ ∀ j, u.frozen? ⟨Q, j, none⟩ = false := by
  obtain ⟨h1, h2, h3⟩ := hZ
  have hb : u.heap[w.heap.size]? = some (.cells #[.string ⟨#[]⟩, .string ⟨#[]⟩, .slice none 0 0] 46) := (hg.block _ h2 (fun e => h3 (Option.some.inj e))).trans h1
  rw [hQ] at hb
  refine ⟨?_, ?_, ?_, fun j => Lib.frozen_of_heap hb j⟩ <;> rw [Lib.cell_of_heap hb] <;> rfl
end Go.Proofs.YtgiojkhmkeocfaaDoor

/- The code's Parse of layer 15: what is thrown is caught. -/
namespace Go.Proofs.YtgiojkhmkeocfaaDoor
open Go.RowKit

/-- a post that says of a panic what it leaves in memory and in three places of the frame -/
def PanC (Q : Exit → Act → World → Prop) (Pn : List PanicEntry → World → Prop) (p2 p3 : Value) (ds : List Deferred) : Exit → Act → World → Prop
  | .panic c, a, w => Pn c w ∧ a.tmps.getD 2 undef = p2 ∧ a.tmps.getD 3 undef = p3 ∧ a.defers = ds
  | .normal, a, w => Q .normal a w
  | _, _, _ => False
theorem PanC.normal {Q : Exit → Act → World → Prop} {Pn : List PanicEntry → World → Prop} {p2 p3 : Value} {ds : List Deferred} {a : Act} {w : World} (h : Q .normal a w) : PanC Q Pn p2 p3 ds .normal a w := h
theorem wp_region_panC {P : Program} {id : Nat} {ops : Array Oper} {b : Bool} {Q : Exit → Act → World → Prop} {a : Act} {w : World} (Pn : List PanicEntry → World → Prop) (p2 p3 : Value) (ds : List Deferred) (hP : ∀ c a w, Pn c w → a.tmps.getD 2 undef = p2 → a.tmps.getD 3 undef = p3 → a.defers = ds → Q (.panic c) a w) (h : (Code.region id ops b).wp P (PanC Q Pn p2 p3 ds) a w) : (Code.region id ops b).wp P Q a w := by
  refine Code.wp_mono (fun e a w h => ?_) h
  cases e with
  | panic c => exact hP c a w h.1 h.2.1 h.2.2.1 h.2.2.2
  | normal => exact h
  | _ => exact (h : False).elim
theorem panC_put {Q : Exit → Act → World → Prop} {Pn : List PanicEntry → World → Prop} {p2 p3 : Value} {ds : List Deferred} {d : Nat} {v : Value} (h2 : d ≠ 2) (h3 : d ≠ 3) : ∀ c a w, PanC Q Pn p2 p3 ds (.panic c) (a.put (some d) v) w → PanC Q Pn p2 p3 ds (.panic c) a w := by
  rintro c a w ⟨x1, x2, x3, x4⟩
  refine ⟨x1, ?_, ?_, x4⟩
  · rw [← x2]
    simp [Act.put, Array.getD_eq_getD_getElem?, Array.getElem?_setIfInBounds_ne h2]
  · rw [← x3]
    simp [Act.put, Array.getD_eq_getD_getElem?, Array.getElem?_setIfInBounds_ne h3]
end Go.Proofs.YtgiojkhmkeocfaaDoor

/- The lines of a text: Split of layer lines and of the reference, walked anew over the normal form's texts. -/
namespace Go.Proofs.YtgiojkhmkeocfaaDoor
open Ln Go.RowKit
attribute [local go_sem] no_at ByteArray.extract_mk

theorem sc_snoc (ws : List (List UInt8)) (a : List UInt8) : scells (ws ++ [a]) = scells ws ++ [.string ⟨a.toArray⟩] := by simp [scells]
theorem sp_one (a : ByteArray) : ∀ u ∈ [Value.string a], u.oneCell' = true := by intro u hu; simp at hu; subst hu; rfl
theorem sp_cells (w : World) (C : List Value) (t : TypeId) : ∀ j u, C[j]? = some u → (w.alloc (.cells C.toArray t)).cell? ((⟨w.heap.size, 0, none⟩ : Addr).add j) = some u := by
  intro j u hj
  have hadd : (⟨w.heap.size, 0, none⟩ : Addr).add j = ⟨w.heap.size, j, none⟩ := by unfold Addr.add; split <;> simp_all
  rw [hadd, cell_of_row _ w.heap.size j C.toArray t (0, 0) (_root_.Go.heap_alloc_new w _)]
  simpa using hj

theorem sp_is10 {x : UInt8} (h : x = 10) : ((x.toNat : Int) == 10) = true ∧ ((x.toNat : Int) != 10) = false := by subst h; exact ⟨rfl, rfl⟩
theorem sp_not10 {x : UInt8} (h : x ≠ 10) : ((x.toNat : Int) == 10) = false ∧ ((x.toNat : Int) != 10) = true := by
  have h1 : x.toNat ≠ 10 := fun e => h (UInt8.toNat_inj.1 (by simpa using e))
  have h2 : ((x.toNat : Int) == 10) = false := beq_eq_false_iff_ne.2 (by omega)
  exact ⟨h2, by unfold bne; rw [h2]; rfl⟩

def sizeT : Value → Nat
  | .string s => s.size
  | _ => 0
theorem sizeT_mk (r : List UInt8) : sizeT (.string ⟨r.toArray⟩) = r.length := rfl
theorem acc_le {acc : List (List UInt8)} {r l : List UInt8} (h : acc ++ splitL r = splitL l) : acc.length ≤ l.length := by
  have h1 := congrArg List.length h
  have h2 := split_len l
  rw [List.length_append] at h1
  omega

set_option maxRecDepth 20000 in
set_option maxHeartbeats 2000000 in
theorem nSplit_f (l : List UInt8) (w : World) (hl : l.length ≤ 1099511627776) :
    Calls Tryd.prog 39 #[.string ⟨l.toArray⟩] w fun e w' => ∃ v, e = .returned v ∧ w'.ownsRow w.heap.size 9 1 v (splitL l).length (scells (splitL l)) ∧ Below w.heap.size w w' := by
  obtain ⟨i0, hi, hz0, hz1, hz2⟩ := info_parts infoStr
  go_enter Tryd.func39, Tryd.ntmps39
  go_wp2
  go_loopw [0, 3, 4] (fun s acc _ wr => ∃ (xs : List (List UInt8)) (r : List UInt8), s = .string ⟨r.toArray⟩ ∧ wr.ownsRow w.heap.size 9 1 acc xs.length (scells xs) ∧ Below w.heap.size w wr ∧ r.length ≤ l.length ∧ xs ++ splitL r = splitL l) (fun s _ _ _ => sizeT s)
  case atStart => exact ⟨[], l, rfl, World.ownsRow_nil _ _ _ _, Below.refl _ _, Nat.le_refl _, rfl⟩
  case round =>
    obtain ⟨acc, r, rfl, hown, hbr, hrl, hw⟩ := hrel
    have hacc := acc_le hw
    have HW : Hid (acc ++ splitL r = splitL l) := hw
    clear hw
    have hbz := hbr.size
    obtain ⟨ao, cap, rfl⟩ := (holds_of hown).form
    rcases Int.lt_or_le (Lib.indexByte r 10) 0 with hq | hq
    · obtain ⟨q1, q2⟩ := index_none hq
      clear hq
      cases r with
      | nil =>
        have HE : Hid (splitL l = acc) := by have := HW.out; show _ = _; simpa [splitL] using this.symm
        go_wp2_with fail
        refine (Tryd.strings_Index_one ⟨([] : List UInt8).toArray⟩ 10 _).mono ?_
        rintro e w1 ⟨rfl, rfl⟩
        go_wp2
        go_ret
        rw [HE.out]
        exact ⟨_, rfl, hown, hbr⟩
      | cons c t =>
        have HE : Hid (splitL l = acc ++ [c :: t]) := by
          have := HW.out
          rw [split_one _ q2 (by simp)] at this
          exact this.symm
        clear q2
        go_wp2_with fail
        refine (Tryd.strings_Index_one ⟨(c :: t).toArray⟩ 10 _).mono ?_
        rintro e w1 ⟨rfl, rfl⟩
        have hi2 : Lib.indexByte (⟨(c :: t).toArray⟩ : ByteArray).data.toList 10 = -1 := q1
        rw [hi2]
        go_wp2_with (at_builtin; refine wpList_append_own _ rfl _ _ 23 rfl w.heap.size 9 i0 (.string ⟨#[]⟩) 1 16 Tryd.underlying23 hi hz0 hz1 hz2 rfl (by decide) _ _ _ rfl (hown.alloc _) ⟨w1.heap.size, 0, none⟩ 1 1 [.string ⟨(c :: t).toArray⟩] rfl rfl (sp_cells _ _ _) (sp_one _) ?c3 ?c4 ?c5 ?_)
        case c3 => unfold maxLen; omega
        case c4 => omega
        case c5 => simp; omega
        intro v' w3 hown3 hgrow hfr
        have hbr3 := (hbr.alloc hbz (.cells #[.string ⟨(c :: t).toArray⟩] 9)).grown hgrow (by simp; omega) (fun j hj => (hown.lt j hj).1)
        go_wp2
        go_ret
        rw [HE.out, sc_snoc]
        exact ⟨_, rfl, by simpa using hown3, hbr3⟩
    · obtain ⟨a, b, rfl, hn, he⟩ := index_some hq
      have HE : Hid (acc ++ [a ++ [10]] ++ splitL b = splitL l) := by
        have := HW.out
        rw [split_cut a b hn] at this
        show _ = _
        simpa using this
      clear hn hq
      have hlen : (a ++ 10 :: b).length = a.length + 1 + b.length := by simp; omega
      have ht : (a ++ 10 :: b).take (a.length + 1) = a ++ [10] := by
        rw [show a ++ 10 :: b = (a ++ [10]) ++ b by simp, List.take_left' (by simp)]
      have hd : (a ++ 10 :: b).drop (a.length + 1) = b := by
        rw [show a ++ 10 :: b = (a ++ [10]) ++ b by simp, List.drop_left' (by simp)]
      generalize a ++ 10 :: b = r at *
      have i1 : 0 ≤ (a.length : Int) + 1 := by omega
      have i2 : (a.length : Int) + 1 ≤ (r.length : Int) := by omega
      have i3 : ((a.length : Int) + 1).toNat = a.length + 1 := by omega
      go_wp2_with fail
      refine (Tryd.strings_Index_one ⟨r.toArray⟩ 10 _).mono ?_
      rintro e w1 ⟨rfl, rfl⟩
      have hi2 : Lib.indexByte (⟨r.toArray⟩ : ByteArray).data.toList 10 = a.length := he
      rw [hi2]
      go_wp2_with (at_builtin; refine wpList_append_own _ rfl _ _ 23 rfl w.heap.size 9 i0 (.string ⟨#[]⟩) 1 16 Tryd.underlying23 hi hz0 hz1 hz2 rfl (by decide) _ _ _ rfl (hown.alloc _) ⟨w1.heap.size, 0, none⟩ 1 1 [.string ⟨(a ++ [10]).toArray⟩] rfl rfl (sp_cells _ _ _) (sp_one _) ?c3 ?c4 ?c5 ?_)
      case c3 => unfold maxLen; omega
      case c4 => omega
      case c5 => simp; omega
      intro v' w3 hown3 hgrow hfr
      have hbr3 := (hbr.alloc hbz (.cells #[.string ⟨(a ++ [10]).toArray⟩] 9)).grown hgrow (by simp; omega) (fun j hj => (hown.lt j hj).1)
      go_wp2
      go_roundw
      case rel => exact ⟨acc ++ [a ++ [10]], b, rfl, by rw [sc_snoc]; simpa using hown3, hbr3, by omega, HE.out⟩
      case measure => rw [sizeT_mk, sizeT_mk]; omega
def Clean (l : List UInt8) (p k : Nat) : Prop := ∀ c ∈ (l.drop p).take (k - p), c ≠ 10

theorem clean_refl (l : List UInt8) (k : Nat) : Clean l k k := by intro c hc; simp at hc
theorem clean_step {l : List UInt8} {p k : Nat} (h : Clean l p k) (hp : p ≤ k) (hk : k < l.length) (h10 : l[k] ≠ 10) : Clean l p (k + 1) := by
  intro c hc
  rw [show k + 1 - p = (k - p) + 1 by omega, List.take_succ_eq_append_getElem (by simp; omega)] at hc
  simp only [List.mem_append, List.mem_singleton] at hc
  rcases hc with hc | hc
  · exact h c hc
  · rw [hc]
    simpa [show p + (k - p) = k by omega] using h10
theorem clean_feed {l : List UInt8} {p k : Nat} (h : Clean l p k) (hp : p ≤ k) (hk : k < l.length) (h10 : l[k] = 10) : splitL (l.drop p) = (l.drop p).take (k + 1 - p) :: splitL (l.drop (k + 1)) := by
  have e : l.drop p = (l.drop p).take (k - p) ++ 10 :: l.drop (k + 1) := by
    have h1 := (List.take_append_drop (k - p) (l.drop p)).symm
    rw [List.drop_drop, show p + (k - p) = k by omega, List.drop_eq_getElem_cons hk, h10] at h1
    exact h1
  have e2 : (l.drop p).take (k + 1 - p) = (l.drop p).take (k - p) ++ [10] := by
    rw [show k + 1 - p = (k - p) + 1 by omega, List.take_succ_eq_append_getElem (by simp; omega)]
    simp [show p + (k - p) = k by omega, h10]
  rw [e2]
  conv => lhs; rw [e]
  exact split_cut _ _ h
theorem clean_end {l : List UInt8} {p : Nat} (h : Clean l p l.length) (hp : p < l.length) : splitL (l.drop p) = [l.drop p] := by
  refine split_one _ (fun c hc => h c ?_) (by intro e; have := congrArg List.length e; simp at this; omega)
  rw [List.take_of_length_le (by simp)]
  exact hc

set_option maxHeartbeats 2000000 in
theorem rSplit_f (l : List UInt8) (w : World) (hl : l.length ≤ 1099511627776) :
    Calls Tryd.prog 80 #[.string ⟨l.toArray⟩] w fun e w' => ∃ v, e = .returned v ∧ w'.ownsRow w.heap.size 9 1 v (splitL l).length (scells (splitL l)) ∧ Below w.heap.size w w' := by
  obtain ⟨i0, hi, hz0, hz1, hz2⟩ := info_parts infoStr
  go_enter Tryd.func80, Tryd.ntmps80
  go_wp2
  go_loopw [3, 4, 5] (fun acc ap i wr => ∃ (xs : List (List UInt8)) (p k : Nat), p ≤ k ∧ k ≤ l.length ∧ ap = .int .i64 p ∧ i = .int .i64 k ∧ wr.ownsRow w.heap.size 9 1 acc xs.length (scells xs) ∧ Below w.heap.size w wr ∧ Hid (Clean l p k) ∧ Hid (xs ++ splitL (l.drop p) = splitL l)) (fun _ _ i _ => l.length - (intOf i).toNat)
  case atStart => exact ⟨[], 0, 0, Nat.le_refl _, Nat.zero_le _, rfl, rfl, World.ownsRow_nil _ _ _ _, Below.refl _ _, clean_refl _ _, rfl⟩
  case round =>
    obtain ⟨acc, p, k, hp, hk, rfl, rfl, hown, hbr, HC, HW⟩ := hrel
    have hacc := acc_le HW.out
    have hbz := hbr.size
    obtain ⟨ao, cap, rfl⟩ := (holds_of hown).form
    by_cases hlt : k < l.length
    · by_cases h10 : l[k] = 10
      · have hb := (sp_is10 h10).1
        have HE : Hid (acc ++ [(l.drop p).take (k + 1 - p)] ++ splitL (l.drop (k + 1)) = splitL l) := by
          have := HW.out
          rw [clean_feed HC.out hp hlt h10] at this
          show _ = _
          simpa using this
        clear h10
        go_wp2_with (at_builtin; refine wpList_append_own _ rfl _ _ 23 rfl w.heap.size 9 i0 (.string ⟨#[]⟩) 1 16 Tryd.underlying23 hi hz0 hz1 hz2 rfl (by decide) _ _ _ rfl (hown.alloc _) ⟨wr.heap.size, 0, none⟩ 1 1 [.string ⟨((l.drop p).take (k + 1 - p)).toArray⟩] rfl rfl (sp_cells _ _ _) (sp_one _) ?c3 ?c4 ?c5 ?_)
        case c3 => unfold maxLen; omega
        case c4 => omega
        case c5 => simp; omega
        intro v' w3 hown3 hgrow hfr
        have hbr3 := (hbr.alloc hbz (.cells #[.string ⟨((l.drop p).take (k + 1 - p)).toArray⟩] 9)).grown hgrow (by simp; omega) (fun j hj => (hown.lt j hj).1)
        go_wp2
        go_roundw
        case rel => exact ⟨acc ++ [(l.drop p).take (k + 1 - p)], k + 1, k + 1, Nat.le_refl _, by omega, by go_num, by go_num, by rw [sc_snoc]; simpa using hown3, hbr3, clean_refl _ _, HE.out⟩
        case measure => simp [intOf]; omega
      · have hb := (sp_not10 h10).1
        have HD : Hid (Clean l p (k + 1)) := clean_step HC.out hp hlt h10
        clear h10
        go_wp2
        go_roundw
        case rel => exact ⟨acc, p, k + 1, by omega, by omega, rfl, by go_num, hown, hbr, HD, HW⟩
        case measure => simp [intOf]; omega
    · have hke : k = l.length := by omega
      subst hke
      by_cases hpl : p < l.length
      · have HE : Hid (splitL l = acc ++ [(l.drop p).take (l.length - p)]) := by
          have := HW.out
          rw [clean_end HC.out hpl] at this
          show _ = _
          rw [List.take_of_length_le (by simp)]
          exact this.symm
        go_wp2_with (at_builtin; refine wpList_append_own _ rfl _ _ 23 rfl w.heap.size 9 i0 (.string ⟨#[]⟩) 1 16 Tryd.underlying23 hi hz0 hz1 hz2 rfl (by decide) _ _ _ rfl (hown.alloc _) ⟨wr.heap.size, 0, none⟩ 1 1 [.string ⟨((l.drop p).take (l.length - p)).toArray⟩] rfl rfl (sp_cells _ _ _) (sp_one _) ?c3 ?c4 ?c5 ?_)
        case c3 => unfold maxLen; omega
        case c4 => omega
        case c5 => simp; omega
        intro v' w3 hown3 hgrow hfr
        have hbr3 := (hbr.alloc hbz (.cells #[.string ⟨((l.drop p).take (l.length - p)).toArray⟩] 9)).grown hgrow (by simp; omega) (fun j hj => (hown.lt j hj).1)
        go_wp2
        go_ret
        rw [HE.out, sc_snoc]
        exact ⟨_, rfl, by simpa using hown3, hbr3⟩
      · have HE : Hid (splitL l = acc) := by
          have := HW.out
          rw [List.drop_of_length_le (by omega)] at this
          show _ = _
          simpa [splitL] using this.symm
        go_wp2
        go_ret
        rw [HE.out]
        exact ⟨_, rfl, hown, hbr⟩
end Go.Proofs.YtgiojkhmkeocfaaDoor

/- The code's Parse of layer 15: the patches that are found, in memory. -/
namespace Go.Proofs.YtgiojkhmkeocfaaDoor
open Go.RowKit

theorem infoPx : (Tryd.prog.info? 46).map (fun i => (i.zero, i.size, i.bytes)) = some (some (.agg #[.string ⟨#[]⟩, .string ⟨#[]⟩, .slice none 0 0]), 3, 56) := by kernel_rfl
/-- a patch, the row of its hunks, the hunks with their rows -/
structure Pfd where
  x : Pth
  v : Value
  hs : List (Hk × Value)
def pxC (f : Pfd) : List Value := [.string ⟨f.x.old.toArray⟩, .string ⟨f.x.new.toArray⟩, f.v]
def pxcells (F : List Pfd) : List Value := F.flatMap pxC
def pxO (f : Pfd) : Obj := .cells #[.string ⟨f.x.old.toArray⟩, .string ⟨f.x.new.toArray⟩, f.v] 46
/-- a patch's own rows -/
structure Pown (B : Nat) (u : World) (f : Pfd) : Prop where
  eq : f.x.hs = f.hs.map (·.1)
  own : u.ownsRow B 43 5 f.v f.hs.length (hkcells f.hs)
  ins : ∀ y ∈ f.hs, u.ownsRow B 91 2 y.2 y.1.ls.length (mkcells y.1.ls)
/-- what was found -/
structure Pw (w : World) (ov : Value) (F : List Pfd) (u : World) : Prop where
  low : Below w.heap.size w u
  own : u.ownsRow w.heap.size 46 3 ov F.length (pxcells F)
  ins : ∀ f ∈ F, Pown w.heap.size u f
theorem Pown.kept {B k : Nat} {u u' : World} {f : Pfd} (h : Pown B u f) (hg : u.grownBy u' (some k)) (h1 : f.v.ownBlock ≠ some k) (h2 : ∀ y ∈ f.hs, y.2.ownBlock ≠ some k) : Pown B u' f := ⟨h.eq, h.own.kept hg (.inr h1), fun y hy => (h.ins y hy).kept hg (.inr (h2 y hy))⟩
theorem Pown.keep {B : Nat} {u u' : World} {f : Pfd} (h : Pown B u f) (hb : Below u.heap.size u u') : Pown B u' f := ⟨h.eq, owns_keep h.own hb, fun y hy => owns_keep (h.ins y hy) hb⟩
/-- a box of a type that is none of the rows' -/
theorem Pown.box {B k : Nat} {u u' : World} {f : Pfd} {cs : Array Value} {t : TypeId} {fr : Nat × Nat} (h : Pown B u f) (hb : u.heap[k]? = some (.cells cs t fr)) (h1 : 43 ≠ t) (h2 : 91 ≠ t) (hg : u.grownBy u' (some k)) : Pown B u' f := h.kept hg (own_box2 h.own hb h1) (fun y hy => own_box2 (h.ins y hy) hb h2)
/-- a row of another type grows -/
theorem row_other {B : Nat} {u u' : World} {e e' : TypeId} {s s' : Nat} {v v' : Value} {n n' : Nat} {xs xs' : List Value} (h : u.ownsRow B e s v n xs) (ho : u.ownsRow B e' s' v' n' xs') (hne : e' ≠ e) (hg : u.grownBy u' v'.ownBlock) : u'.ownsRow B e s v n xs := by
  refine ⟨h.1, ?_⟩
  rcases h.2 with q | ⟨b, cap, cur, rfl, q2, q3, q4⟩
  · exact .inl q
  · refine .inr ⟨b, cap, cur, rfl, q2, ?_, q4⟩
    rw [hg.block b (Array.getElem?_eq_some_iff.1 q3).1 (fun e => own_box2 ho q3 hne e.symm)]
    exact q3
section
variable {w u u' : World} {R : Nat} {L : List (List UInt8)} {vL ov : Value} {F : List Pfd} {p p' : Nat}
end
theorem one_px (w : World) (f : Pfd) : Holds (w.alloc (pxO f)) (.slice (some ⟨w.heap.size, 0, none⟩) 1 1) 1 (pxC f) := by
  refine .inr ⟨⟨w.heap.size, 0, none⟩, 1, rfl, Nat.le_refl _, ?_⟩
  intro j u hj
  have hb := heap_alloc_new w (pxO f)
  match j, hj with
  | 0, hj => rw [show ((⟨w.heap.size, 0, none⟩ : Addr).add 0) = ⟨w.heap.size, 0, none⟩ from rfl, Lib.cell_of_heap hb]; exact hj
  | 1, hj => rw [show ((⟨w.heap.size, 0, none⟩ : Addr).add 1) = ⟨w.heap.size, 1, none⟩ from rfl, Lib.cell_of_heap hb]; exact hj
  | 2, hj => rw [show ((⟨w.heap.size, 0, none⟩ : Addr).add 2) = ⟨w.heap.size, 2, none⟩ from rfl, Lib.cell_of_heap hb]; exact hj
  | n + 3, hj => simp [pxC] at hj
theorem patP_drop {k p : Nat} {L r : List (List UInt8)} {x : Pth} {p1 : Nat} (h : patP k p (L.drop p) = .ok (x, p1, r)) : k < 64 := by
  unfold patP at h
  cases hn : namP [42, 42, 42, 32] p (L.drop p) with
  | error e => rw [hn] at h; cases h
  | ok z =>
    rw [hn] at h
    dsimp only at h
    split at h
    · cases h
    · omega
/-- patches ahead of what is left -/
def thenPs (l : List Pth) (X : Except (Nat × Int) (List Pth)) : Except (Nat × Int) (List Pth) :=
  match X with
  | .error e => .error e
  | .ok m => .ok (l ++ m)
/-- what Parse answers -/
def PrQ (w : World) (X : Except (Nat × Int) (List Pth)) (e : Ending) (w' : World) : Prop :=
  match X with
  | .error (a, z) => ∃ g, e = .returned (.tuple #[.slice none 0 0, .iface 74 (.pointer (some ⟨g, 0, none⟩))]) ∧ w'.heap[g]? = some (fltO (a : Int) z) ∧ Below w.heap.size w w'
  | .ok l => ∃ v' F, e = .returned (.tuple #[v', .nilIface]) ∧ Pw w v' F w' ∧ F.map (·.x) = l
end Go.Proofs.YtgiojkhmkeocfaaDoor

/- The code's Parse of layer 15, walked: the patches of a text, or what was thrown. -/
namespace Go.Proofs.YtgiojkhmkeocfaaDoor
open Go.RowKit
open Ln

theorem cxHs_drop (f : Nat) : ∀ {k p : Nat} {L r : List (List UInt8)} {hs : List Hk} {p1 : Nat}, k ≤ 4096 → cxHs f k p (L.drop p) = .ok (hs, p1, r) → r = L.drop p1 ∧ p < p1 ∧ p1 ≤ L.length := by
  induction f with
  | zero =>
    intro k p L r hs p1 _ h
    simp only [cxHs] at h
    cases h
  | succ f ih =>
    intro k p L r hs p1 hk h
    simp only [cxHs] at h
    cases hh : cxH k p (L.drop p) with
    | error e => rw [hh] at h; cases h
    | ok z =>
      obtain ⟨x, p2, r2⟩ := z
      obtain ⟨rfl, b2, b3, b4⟩ := cxH_drop hk hh
      rw [hh] at h
      dsimp only at h
      split at h
      · cases h2 : cxHs f (k + 1) p2 (L.drop p2) with
        | error e => rw [h2] at h; cases h
        | ok z =>
          obtain ⟨l, p3, r3⟩ := z
          rw [h2] at h
          injection h with h
          injection h with e1 e2
          injection e2 with e2 e3
          subst e2 e3
          obtain ⟨c1, c2, c3⟩ := ih (by omega) h2
          exact ⟨c1, by omega, c3⟩
      · injection h with h
        injection h with e1 e2
        injection e2 with e2 e3
        subst e2 e3
        exact ⟨rfl, b2, b3⟩
theorem pat_drop {k p : Nat} {L r : List (List UInt8)} {x : Pth} {p1 : Nat} (h : patP k p (L.drop p) = .ok (x, p1, r)) : r = L.drop p1 ∧ p < p1 ∧ p1 ≤ L.length ∧ k < 64 := by
  have hk := patP_drop h
  unfold patP at h
  cases hn : namP [42, 42, 42, 32] p (L.drop p) with
  | error e => rw [hn] at h; cases h
  | ok z =>
    obtain ⟨n1, r1⟩ := z
    obtain ⟨rfl, b1⟩ := nam_drop hn
    rw [hn] at h
    dsimp only at h
    rw [if_neg (by omega)] at h
    cases hn2 : namP [45, 45, 45, 32] (p + 1) (L.drop (p + 1)) with
    | error e => rw [hn2] at h; cases h
    | ok z =>
      obtain ⟨n2, r2⟩ := z
      obtain ⟨rfl, b2⟩ := nam_drop hn2
      rw [hn2] at h
      dsimp only at h
      cases hh : cxHs ((L.drop (p + 1 + 1)).length + 1) 0 (p + 2) (L.drop (p + 1 + 1)) with
      | error e => rw [hh] at h; cases h
      | ok z =>
        obtain ⟨hs, p3, r3⟩ := z
        rw [hh] at h
        injection h with h
        injection h with e1 e2
        injection e2 with e2 e3
        subst e2 e3
        obtain ⟨c1, c2, c3⟩ := cxHs_drop _ (L := L) (p := p + 2) (by omega) hh
        exact ⟨c1, by omega, c3, hk⟩
theorem mem_flatC (l : List (List UInt8)) : ∀ s ∈ l, s.length ≤ l.flatten.length := by
  induction l with
  | nil => intro s hs; cases hs
  | cons a l ih =>
    intro s hs
    rw [List.flatten_cons, List.length_append]
    rcases List.mem_cons.1 hs with rfl | h
    · omega
    · have := ih s h
      omega
theorem split_shortC {t : List UInt8} {M : Nat} (h : t.length ≤ M) : ∀ s ∈ Ln.splitL t, s.length ≤ M := by
  intro s hs
  have h1 := congrArg List.length (Ln.split_join t)
  have h2 := mem_flatC _ s hs
  omega
theorem load_pxs {u : World} {a : Addr} {o : Option Addr} {n c : Nat} (h : u.cell? a = some (.slice o n c)) {op : Oper} (x : Operand) (ho : op.op = .load 47 x) {ev : Operand → Value} (hx : ev x = .pointer (some a)) :
    (execOp ev op).run Tryd.prog u = .ok (.value (.slice o n c)) u := by
  simp only [execOp, ho, hx]
  go_simp
theorem exec_storePx {u : World} {a : Addr} {v0 : Value} (hc : u.cell? a = some v0) (hf : u.frozen? a = false) {o : Option Addr} {n c : Nat} {op : Oper} (x y : Operand) (ho : op.op = .store 47 x y) {ev : Operand → Value} (hx : ev x = .pointer (some a)) (hy : ev y = .slice o n c) :
    (execOp ev op).run Tryd.prog u = .ok .skip (u.setCell a (.slice o n c)) := by
  simp only [execOp, ho, hx, hy]
  go_simp
/-- what is left behind by what is thrown -/
def PnP (w : World) (X : Except (Nat × Int) (List Pth)) (c : List PanicEntry) (u : World) : Prop :=
  ∃ (g a : Nat) (z : Int) (v0 : Value), c = [{ v := .iface 74 (.pointer (some ⟨g, 0, none⟩)), recovered := false }] ∧ u.heap[g]? = some (fltO (a : Int) z) ∧ X = .error (a, z) ∧ Below w.heap.size w u ∧ u.heap[w.heap.size]? = some (.cells #[v0] 47) ∧ u.heap[w.heap.size + 1]? = some (.cells #[.nilIface] 31)
end Go.Proofs.YtgiojkhmkeocfaaDoor

/- The code's side of a page of layer 15, walked. -/
namespace Go.Proofs.YtgiojkhmkeocfaaDoor
open Go.RowKit Go.Proofs.YtgiojkhmkeocfaaDoor

theorem cw_u8 {u : World} {a : Addr} {z : Int} (h : u.cell? a = some (.int .u8 z)) {op : Oper} (x : Operand) (ho : op.op = .load 5 x) {ev : Operand → Value} (hx : ev x = .pointer (some a)) :
    (execOp ev op).run Tryd.prog u = .ok (.value (.int .u8 z)) u := by
  simp only [execOp, ho, hx]
  go_simp
theorem cw_str {u : World} {a : Addr} {s : ByteArray} (h : u.cell? a = some (.string s)) {op : Oper} (x : Operand) (ho : op.op = .load 9 x) {ev : Operand → Value} (hx : ev x = .pointer (some a)) :
    (execOp ev op).run Tryd.prog u = .ok (.value (.string s)) u := by
  simp only [execOp, ho, hx]
  go_simp
theorem cw_ix {u : World} {b off n c i : Nat} (hi : i < n) {op : Oper} (x y : Operand) (ho : op.op = .indexAddr 59 x y) {ev : Operand → Value} (hx : ev x = .slice (some ⟨b, off, none⟩) n c) (hy : ev y = .int .i64 (i : Int)) :
    (execOp ev op).run Tryd.prog u = .ok (.value (.pointer (some ⟨b, off + i, none⟩))) u := by
  have i1 : 0 ≤ (i : Int) := by omega
  have i2 : (i : Int) < (n : Int) := by omega
  simp only [execOp, ho, hx, hy]
  go_simp
/-- what a slice of bytes holds, place by place -/
theorem hu_at {w : World} {ao : Option Addr} {n c : Nat} {l : List Int} (h : Holds w (.slice ao n c) n (ucells l)) (hl : l.length = n) (h0 : 0 < n) : ∃ b off, ao = some ⟨b, off, none⟩ ∧ ∀ k (hk : k < l.length), w.cell? ⟨b, off + k, none⟩ = some (.int .u8 l[k]) := by
  rcases h with ⟨_, h1, _⟩ | ⟨ad, c', h, _, hc⟩
  · omega
  · cases h
    have h1 := hc 0 _ (List.getElem?_eq_getElem (by rw [ucells_length]; omega))
    obtain ⟨b, off, rfl⟩ := addr_of h1
    refine ⟨b, off, rfl, fun k hk => ?_⟩
    have := hc k (.int .u8 l[k]) (by simp [ucells, hk])
    rw [add_none] at this
    exact this
theorem sidZ_drop (sg : Int) (l : List Mk) (sh : List Int) (k : Nat) (h : l.length = sh.length) (hk : k < l.length) : sidZ sg (l.drop k) (sh.drop k) = (if l[k].sg = 32 ∨ l[k].sg = sg then lnL [UInt8.ofNat (sh[k]'(by omega)).toNat, 32] l[k].tx else []) ++ sidZ sg (l.drop (k + 1)) (sh.drop (k + 1)) := by
  rw [List.drop_eq_getElem_cons hk, List.drop_eq_getElem_cons (show k < sh.length by omega)]
  rfl
set_option maxHeartbeats 8000000 in
set_option maxRecDepth 10000 in
theorem cside_f (B b : Nat) (v : Value) (sg : Int) (l : List Mk) (sh : List Int) (lv sv : Value) (acc Z : List UInt8) (w : World) (h : Pg B b v acc w) (hBw : B ≤ w.heap.size) (hll : l.length ≤ 1099511627776) (HSl : Hid (l.length = sh.length)) (HSh : Hid (∀ x ∈ sh, 0 ≤ x ∧ x < 256)) (HTx : Hid (∀ m ∈ l, m.tx.length ≤ 1099511627776))
    (hlv : HMk w lv l) (HL : Hid (∀ v' u, Wr B b v v' w u → HMk u lv l)) (HS : Hid (∀ v' u, Wr B b v v' w u → Holds u sv sh.length (ucells sh)))
    (HZ : Hid (acc ++ (if hasM sg l = true then sidZ sg l sh else []).flatten = Z)) (hZ : Z.length ≤ 70368744177664) :
    Calls Tryd.prog 96 #[.pointer (some ⟨b, 0, none⟩), lv, sv, .int .u8 sg] w fun e w' => e = .returned (.tuple #[]) ∧ ∃ v', Pg B b v' Z w' ∧ Wr B b v v' w w' := by
  obtain ⟨lo, lc, rfl⟩ := HMk.form hlv
  obtain ⟨so, sc, rfl⟩ : ∃ so sc, sv = .slice so sh.length sc := (HS.out v w (Wr.refl _ _ _ _)).form
  cases hh : hasM sg l with
  | false =>
    have HE : Hid (acc = Z) := (by show _ = _; have h := HZ.out; rw [hh, if_neg (by decide)] at h; simpa using h)
    have hc := chas_f sg l _ w hlv hll false hh
    clear HZ hh HL HS
    go_enter Tryd.func96, Tryd.ntmps96
    go_wp2_with fail
    refine hc.mono ?_
    rintro e w1 ⟨rfl, hB1⟩
    go_wp2
    first
      | go_end0
      | refine bodyPost_ret (results_none rfl _ _ _) rfl ?_
      | refine bodyPost_end (results_none rfl _ _ _) rfl ?_
    exact ⟨rfl, v, by rw [← HE.out]; exact h.low hB1, Wr.low hB1 hBw⟩
  | true =>
    have HZ0 : Hid (acc ++ (sidZ sg (l.drop 0) (sh.drop 0)).flatten = Z) := (by have h := HZ.out; rw [hh, if_pos rfl] at h; exact h)
    have hc := chas_f sg l _ w hlv hll true hh
    clear HZ hh
    rw [← HSl.out] at HS
    rw [← HSl.out]
    go_enter Tryd.func96, Tryd.ntmps96
    go_wp2_with fail
    refine hc.mono ?_
    rintro e w1 ⟨rfl, hB1⟩
    have hP1 := h.low hB1
    have hW1 : Wr B b v v w w1 := Wr.low hB1 hBw
    clear hc hB1 h
    go_wp2
    go_loopw [16] (fun i wr => ∃ (k : Nat) (v1 : Value) (ac : List UInt8), k ≤ l.length ∧ i = .int .i64 k ∧ Pg B b v1 ac wr ∧ Wr B b v v1 w wr ∧ Hid (ac ++ (sidZ sg (l.drop k) (sh.drop k)).flatten = Z)) (fun i _ => l.length - (intOf i).toNat)
    case atStart => exact ⟨0, v, acc, Nat.zero_le _, by go_num, hP1, hW1, HZ0⟩
    case round =>
    clear HZ0 hP1 hW1
    obtain ⟨k, v1, ac, hk, rfl, hP, hW, HI⟩ := hrel
    have hsz := hW.size
    by_cases hlt : k < l.length
    · obtain ⟨bk, off, rfl, hbk, hcl⟩ := HMk.at (HL.out v1 wr hW) (by omega)
      obtain ⟨sb, soff, rfl, hscl⟩ := hu_at (HS.out v1 wr hW) HSl.out.symm (by omega)
      obtain ⟨c0, c1⟩ := hcl k hlt
      have s0 := hscl k (by have := HSl.out; omega)
      have HI2 := HI.out
      rw [sidZ_drop sg l sh k HSl.out hlt] at HI2
      have hx := HSh.out (sh[k]'(by have := HSl.out; omega)) (List.getElem_mem _)
      have htx := HTx.out l[k] (List.getElem_mem _)
      obtain ⟨m, hm⟩ : ∃ m, l[k] = m := ⟨_, rfl⟩
      obtain ⟨x, hxx⟩ : ∃ x, sh[k]'(by have := HSl.out; omega) = x := ⟨_, rfl⟩
      rw [hm] at c0 c1 HI2 htx
      rw [hxx] at s0 HI2 hx
      have HX : Hid (sh[k]'(by have := HSl.out; omega) = x) := hxx
      clear hcl hscl HI hm hxx
      have i1 : (0 : Int) ≤ (k : Int) := by omega
      have i2 : (k : Int) < (l.length : Int) := by omega
      obtain ⟨q, hq⟩ : ∃ q : Bool, decide (m.sg = 32 ∨ m.sg = sg) = q := ⟨_, rfl⟩
      have HQ : Hid (decide (m.sg = 32 ∨ m.sg = sg) = q) := hq
      clear hq
      go_upto_region 4 with fail
      go_cut [29] from 17 to 38 (fun cv wz => cv = .bool q ∧ wz = wr.alloc (.cells #[.int .u8 m.sg, .string ⟨m.tx.toArray⟩] 91))
      case first =>
        by_cases h1 : m.sg = 32
        · have e1 : (m.sg == 32) = true := beq_iff_eq.2 h1
          have HE : Hid (true = q) := (by show _ = _; rw [← HQ.out]; simp [h1])
          clear h1
          go_wp2
          go_meet
          case rel => exact ⟨by rw [← HE.out], rfl⟩
        · have e1 : (m.sg == 32) = false := beq_eq_false_iff_ne.2 h1
          have HE : Hid ((m.sg == sg) = q) := (by show _ = _; rw [← HQ.out]; simp only [h1, false_or]; rfl)
          clear h1
          go_wp2
          go_meet
          case rel => exact ⟨by rw [← HE.out], rfl⟩
      case rest =>
      obtain ⟨rfl, rfl⟩ := hcut
      have hBm : Below wr.heap.size wr (wr.alloc (.cells #[.int .u8 m.sg, .string ⟨m.tx.toArray⟩] 91)) := (Below.refl _ wr).alloc (Nat.le_refl _) _
      have hPm := hP.low hBm
      have hWm := hW.trans (Wr.low hBm (Nat.le_trans hBw hsz))
      have hMb : (wr.alloc (.cells #[.int .u8 m.sg, .string ⟨m.tx.toArray⟩] 91)).heap[wr.heap.size]? = some (.cells #[.int .u8 m.sg, .string ⟨m.tx.toArray⟩] 91) := heap_alloc_new wr _
      have hOff : Off wr.heap.size b v1 := ⟨by have := Bld.lt hP; omega, fun e => by have := (hP.2.2.1.lt _ e).2; omega⟩
      have hsm : wr.heap.size ≤ (wr.alloc (.cells #[.int .u8 m.sg, .string ⟨m.tx.toArray⟩] 91)).heap.size := by simp
      clear c0 c1 s0
      generalize wr.alloc (.cells #[.int .u8 m.sg, .string ⟨m.tx.toArray⟩] 91) = Wm at hPm hWm hMb hsm hBm ⊢
      generalize wr.heap.size = M at hMb hOff hsm
      cases q with
      | true =>
        have hq1 : m.sg = 32 ∨ m.sg = sg := of_decide_eq_true HQ.out
        rw [if_pos hq1, List.flatten_append, ← List.append_assoc] at HI2
        obtain ⟨A2, hA2⟩ : ∃ A2, ac ++ (lnL [UInt8.ofNat x.toNat, 32] m.tx).flatten = A2 := ⟨_, rfl⟩
        rw [hA2] at HI2
        have HI3 : Hid (A2 ++ (sidZ sg (l.drop (k + 1)) (sh.drop (k + 1))).flatten = Z) := HI2
        have hAl : A2.length ≤ 70368744177664 := (by
          have := congrArg List.length HI2
          rw [List.length_append] at this
          omega)
        have hcl : ∀ (v' : Value) (u : World), Wr B b v v' w u → u.cell? ⟨sb, soff + k, none⟩ = some (.int .u8 x) := (by
          intro v' u hu
          obtain ⟨sb', soff', he, hsc⟩ := hu_at (HS.out v' u hu) HSl.out.symm (by omega)
          cases he
          rw [hsc k (by have := HSl.out; omega)]
          rw [HX.out])
        have d0 : Wm.drew.cell? ⟨sb, soff + k, none⟩ = some (.int .u8 x) := hcl _ _ (hWm.trans (Wr.low ((Below.refl _ Wm).drew) (by have := hWm.size; omega)))
        have d1 : Wm.drew.cell? ⟨M, 1, none⟩ = some (.string ⟨m.tx.toArray⟩) := (by rw [Lib.cell_of_heap (w := Wm.drew) hMb]; rfl)
        have hPd : Pg B b v1 ac Wm.drew := hPm.low ((Below.refl _ Wm).drew)
        have hWd : Wr B b v v1 w Wm.drew := hWm.trans (Wr.low ((Below.refl _ Wm).drew) (by have := hWm.size; omega))
        have HC : Hid (Calls Tryd.prog 131 (#[.pointer (some ⟨b, 0, none⟩), .int .u8 x, .string ⟨m.tx.toArray⟩] ++ #[]) Wm.drew fun e w2 => ∃ v2, e = .returned v2 ∧ (w2.cell? ⟨sb, soff + k, none⟩ = some (.int .u8 x) ∧ w2.cell? ⟨M, 1, none⟩ = some (.string ⟨m.tx.toArray⟩)) ∧ v2 = .tuple #[] ∧ ∃ v', Pg B b v' A2 w2 ∧ Wr B b v v' w w2) := (by
          refine (cline_f B b v1 x hx.1 hx.2 ac m.tx A2 Wm.drew hPd (Nat.le_trans hBw hWd.size) hA2 hAl htx).mono ?_
          rintro e w2 ⟨rfl, v2, h1, h2⟩
          have h3 := hWd.trans h2
          obtain ⟨h4, _⟩ := h2.block (k := M) hMb hOff
          exact ⟨_, rfl, ⟨hcl _ _ h3, by rw [Lib.cell_of_heap h4]; rfl⟩, rfl, v2, h1, h3⟩)
        clear HI2 hA2 HQ hcl hPd hWd hPm hWm hP hW hMb hOff HL HS
        go_upto_region 5 with fail
        refine wp_region_noPanic ?_
        refine wp_region_held_drew (S := fun u => u.cell? ⟨sb, soff + k, none⟩ = some (.int .u8 x) ∧ u.cell? ⟨M, 1, none⟩ = some (.string ⟨m.tx.toArray⟩)) (by kernel_rfl) ⟨d0, d1⟩ (fun hHeld => ?_)
        generalize Wm.drew = wd at hHeld HC ⊢
        refine go_take 0 30 _ (.pointer (some ⟨b, 0, none⟩)) rfl (by kernel_rfl) (by kernel_rfl) (by kernel_rfl) (by kernel_rfl) (fun _ _ _ h => h) (Or.inl ⟨by kernel_rfl, fun u hu => by kernel_rfl⟩) hHeld ?_
        simp only [Act.put, List.setIfInBounds_toArray, List.set_cons_zero, List.set_cons_succ]
        refine go_take 1 31 _ (.slice (some ⟨sb, soff, none⟩) l.length sc) rfl (by kernel_rfl) (by kernel_rfl) (by kernel_rfl) (by kernel_rfl) (fun _ _ _ h => h) (Or.inl ⟨by kernel_rfl, fun u hu => by kernel_rfl⟩) hHeld ?_
        simp only [Act.put, List.setIfInBounds_toArray, List.set_cons_zero, List.set_cons_succ]
        refine go_take 2 32 _ (.int .i64 (k : Int)) rfl (by kernel_rfl) (by kernel_rfl) (by kernel_rfl) (by kernel_rfl) (fun _ _ _ h => h) (Or.inl ⟨by kernel_rfl, fun u hu => by kernel_rfl⟩) hHeld ?_
        simp only [Act.put, List.setIfInBounds_toArray, List.set_cons_zero, List.set_cons_succ]
        refine go_take 3 33 _ (.pointer (some ⟨sb, soff + k, none⟩)) rfl (by kernel_rfl) (by kernel_rfl) (by kernel_rfl) (by kernel_rfl) (fun _ _ _ h => h) (Or.inl ⟨by kernel_rfl, fun u hu => cw_ix (c := sc) hlt (.tmp 31) (.tmp 32) (by kernel_rfl) (by kernel_rfl) (by kernel_rfl)⟩) hHeld ?_
        simp only [Act.put, List.setIfInBounds_toArray, List.set_cons_zero, List.set_cons_succ]
        refine go_take 4 34 _ (.int .u8 x) rfl (by kernel_rfl) (by kernel_rfl) (by kernel_rfl) (by kernel_rfl) (fun _ _ _ h => h) (Or.inl ⟨by kernel_rfl, fun u hu => cw_u8 hu.1 (.tmp 33) (by kernel_rfl) (by kernel_rfl)⟩) hHeld ?_
        simp only [Act.put, List.setIfInBounds_toArray, List.set_cons_zero, List.set_cons_succ]
        refine go_take 5 35 _ (.pointer (some ⟨M, 1, none⟩)) rfl (by kernel_rfl) (by kernel_rfl) (by kernel_rfl) (by kernel_rfl) (fun _ _ _ h => h) (Or.inl ⟨by kernel_rfl, fun u hu => by kernel_rfl⟩) hHeld ?_
        simp only [Act.put, List.setIfInBounds_toArray, List.set_cons_zero, List.set_cons_succ]
        refine go_take 6 36 _ (.string ⟨m.tx.toArray⟩) rfl (by kernel_rfl) (by kernel_rfl) (by kernel_rfl) (by kernel_rfl) (fun _ _ _ h => h) (Or.inl ⟨by kernel_rfl, fun u hu => cw_str hu.2 (.tmp 35) (by kernel_rfl) (by kernel_rfl)⟩) hHeld ?_
        simp only [Act.put, List.setIfInBounds_toArray, List.set_cons_zero, List.set_cons_succ]
        refine go_callE 7 37 _ rfl (by kernel_rfl) (by kernel_rfl) (by kernel_rfl) 131 (.func 131) #[.tmp 30, .tmp 34, .tmp 36] #[136, 5, 9] (by kernel_rfl) #[] (by kernel_rfl) #[.pointer (some ⟨b, 0, none⟩), .int .u8 x, .string ⟨m.tx.toArray⟩] (by kernel_rfl) (enters_of Tryd.func131 (by kernel_rfl) rfl) (fun v2 w2 => v2 = .tuple #[] ∧ ∃ v', Pg B b v' A2 w2 ∧ Wr B b v v' w w2) ?_ ?_
        · exact HC.out
        rintro _ w2 _ ⟨rfl, v2, hP2, hW2⟩
        simp only [Act.put, List.setIfInBounds_toArray, List.set_cons_zero, List.set_cons_succ]
        refine wpAnyH_done (by kernel_rfl) ?_ _
        refine NoPanic.normal ?_
        
        clear HC hHeld
        go_wp2
        exact ⟨⟨k + 1, v2, A2, by omega, by go_num, hP2, hW2, HI3⟩, by simp [intOf]; omega⟩
      | false =>
        have hq1 : ¬ (m.sg = 32 ∨ m.sg = sg) := of_decide_eq_false HQ.out
        rw [if_neg hq1, List.nil_append] at HI2
        have HI3 : Hid (ac ++ (sidZ sg (l.drop (k + 1)) (sh.drop (k + 1))).flatten = Z) := HI2
        clear HI2 HQ
        go_wp2
        exact ⟨⟨k + 1, v1, ac, by omega, by go_num, hPm, hWm, HI3⟩, by simp [intOf]; omega⟩
    · have hend : decide ((k : Int) < (l.length : Int)) = false := decide_eq_false (by omega)
      have HE : Hid (ac = Z) := (by
        have h := HI.out
        rw [List.drop_of_length_le (by omega)] at h
        show _ = _
        simpa [sidZ] using h)
      clear HI
      go_wp2
      first
        | go_end0
        | refine bodyPost_ret (results_none rfl _ _ _) rfl ?_
        | refine bodyPost_end (results_none rfl _ _ _) rfl ?_
      exact ⟨rfl, v1, by rw [← HE.out]; exact hP, hW⟩
end Go.Proofs.YtgiojkhmkeocfaaDoor

/- The code's Check of layer 11, walked. -/
namespace Go.Proofs.YtgiojkhmkeocfaaDoor
open Ln Go.RowKit

theorem rng_nm (h : Hk) : rngB h = (nmB h.A h.AN && nmB h.B h.BN) := by
  unfold rngB nmB
  cases nat31 h.A <;> cases nat31 h.AN <;> cases nat31 h.B <;> cases nat31 h.BN <;> cases decide (h.A = 0) <;> cases decide (0 < h.AN) <;> cases decide (h.B = 0) <;> cases decide (0 < h.BN) <;> rfl
theorem pk_mem {no : Int} {l : List Mk} {a : List UInt8} (h : a ∈ pkL no l) : ∃ m ∈ l, m.tx = a := by
  induction l with
  | nil => cases h
  | cons m l ih =>
    simp only [pkL] at h
    split at h
    · rcases List.mem_cons.1 h with rfl | h
      · exact ⟨m, by simp, rfl⟩
      · obtain ⟨x, hx, e⟩ := ih h
        exact ⟨x, by simp [hx], e⟩
    · obtain ⟨x, hx, e⟩ := ih h
      exact ⟨x, by simp [hx], e⟩
theorem chk_rng {h : Hk} (hq : rngB h = false) : chkH h = 2 := by
  unfold chkH
  rw [if_pos hq]
theorem chk_fld {h : Hk} (h1 : rngB h = true) (hq : fldB h.ls = false) : chkH h = 6 := by
  unfold chkH
  rw [if_neg (by rw [h1]; decide), if_pos hq]
theorem chk_cnt {h : Hk} (h1 : rngB h = true) (h2 : fldB h.ls = true) (hq : h.AN ≠ (oldL h).length ∨ h.BN ≠ (newL h).length) : chkH h = 120 := by
  unfold chkH
  rw [if_neg (by rw [h1]; decide), if_neg (by rw [h2]; decide), if_pos hq]
theorem all_chg {l : List Mk} (ha : allB l = true) : l.all (fun m => decide (m.sg = 32)) = !l.any chgB := by
  induction l with
  | nil => rfl
  | cons m l ih =>
    simp only [allB, List.all_cons, Bool.and_eq_true] at ha
    simp only [List.all_cons, List.any_cons]
    rw [ih ha.2]
    have hm := ha.1
    simp only [okS, Bool.or_eq_true, decide_eq_true_eq] at hm
    unfold chgB
    rcases hm with (hm | hm) | hm <;> rw [hm] <;> simp
theorem chk_end {h : Hk} (h1 : rngB h = true) (h2 : fldB h.ls = true) (h3 : h.AN = (oldL h).length) (h4 : h.BN = (newL h).length) {q : Bool} (hq : h.ls.any chgB = q) : chkH h = if q = true then 0 else 50 := by
  unfold chkH
  rw [if_neg (by rw [h1]; decide), if_neg (by rw [h2]; decide), if_neg (fun k => by rcases k with k | k <;> contradiction)]
  have ha : allB h.ls = true := by
    have := fld_code h.ls
    rw [h2] at this
    simp only [Bool.true_eq, Bool.and_eq_true] at this
    exact this.1.1
  rw [all_chg ha, hq]
  cases q <;> rfl
theorem any_strange (l : List Mk) : l.any (fun m => !okS m.sg) = !allB l := by
  induction l with
  | nil => rfl
  | cons m l ih =>
    simp only [List.any_cons, allB, List.all_cons, Bool.not_and] at ih ⊢
    rw [ih]
theorem hold_held {h : Hk} {v : Value} {W u : World} (hv : HMk W v h.ls) (hl : h.ls.length ≤ 1099511627776) {R : List (List UInt8)} (HR : Hid (oldL h = R)) (hL : Low W u) : Calls Tryd.prog 32 (#[hkV h v] ++ #[]) u fun e w' => ∃ x, e = .returned x ∧ Low W w' ∧ (HS w' x R ∧ Below u.heap.size u w') := by
  refine (hOld_f h v u (HMk.keep hv hL (Nat.le_refl _)) hl R HR).mono ?_
  rintro e w' ⟨x, rfl, hx, hB⟩
  exact ⟨_, rfl, hL.trans (hB.mono hL.size), hx, hB⟩
theorem hnew_held {h : Hk} {v : Value} {W u : World} (hv : HMk W v h.ls) (hl : h.ls.length ≤ 1099511627776) {R : List (List UInt8)} (HR : Hid (newL h = R)) (hL : Low W u) : Calls Tryd.prog 34 (#[hkV h v] ++ #[]) u fun e w' => ∃ x, e = .returned x ∧ Low W w' ∧ (HS w' x R ∧ Below u.heap.size u w') := by
  refine (hNew_f h v u (HMk.keep hv hL (Nat.le_refl _)) hl R HR).mono ?_
  rintro e w' ⟨x, rfl, hx, hB⟩
  exact ⟨_, rfl, hL.trans (hB.mono hL.size), hx, hB⟩

set_option maxRecDepth 10000 in
set_option maxHeartbeats 4000000 in
theorem hCheck_f (h : Hk) (v : Value) (w : World) (hv : HMk w v h.ls) (hl : h.ls.length ≤ 1099511627776) (htx : ∀ m ∈ h.ls, m.tx.length ≤ 1099511627776) (r : Int) (HR : Hid (chkH h = r)) : Calls Tryd.prog 15 #[hkV h v] w fun e w' => e = .returned (.int .i64 r) ∧ Below w.heap.size w w' := by
  obtain ⟨A, AN, B, BN, ls⟩ := h
  dsimp only at hv hl htx
  obtain ⟨lo, lc, rfl⟩ := HMk.form hv
  have hx := Hx.new w ⟨A, AN, B, BN, ls⟩ (.slice lo ls.length lc)
  have hBl : Below w.heap.size w (w.alloc (hkO ⟨A, AN, B, BN, ls⟩ (.slice lo ls.length lc))) := (Below.refl _ w).alloc (Nat.le_refl _) _
  have hv1 := HMk.keep hv hBl (Nat.le_refl _)
  have HTX : Hid (∀ m ∈ ls, m.tx.length ≤ 1099511627776) := htx
  clear htx hv
  obtain ⟨x0, x1, x2, x3, x4⟩ := hx.cells
  unfold hkV
  dsimp only at x0 x1 x2 x3 x4 ⊢
  have hW0 : w.alloc (hkO ⟨A, AN, B, BN, ls⟩ (.slice lo ls.length lc)) = w.alloc (Obj.cells #[Value.int IntKind.i64 A, Value.int IntKind.i64 AN, Value.int IntKind.i64 B, Value.int IntKind.i64 BN, .slice lo ls.length lc] 43) := rfl
  generalize w.alloc (hkO ⟨A, AN, B, BN, ls⟩ (.slice lo ls.length lc)) = W at *
  have hW := hW0.symm
  clear hW0
  obtain ⟨p1, hp1⟩ : ∃ p, nmB A AN = p := ⟨_, rfl⟩
  obtain ⟨p2, hp2⟩ : ∃ p, nmB B BN = p := ⟨_, rfl⟩
  have HG : Hid (rngB ⟨A, AN, B, BN, ls⟩ = (p1 && p2)) := (by show _ = _; rw [rng_nm, ← hp1, ← hp2])
  have HP1 : Hid (nmB A AN = p1) := hp1
  have HP2 : Hid (nmB B BN = p2) := hp2
  clear hp1 hp2
  go_enter Tryd.func15, Tryd.ntmps15
  go_wp2_with fail
  refine (hnumbered_f A AN W p1 HP1).mono ?_
  rintro e w1 ⟨rfl, rfl⟩
  clear hW HP1
  cases p1 with
  | false =>
    have HE : Hid (2 = r) := (by show _ = _; rw [← HR.out, chk_rng (by rw [HG.out]; rfl)])
    clear HR HG
    go_wp2
    go_ret
    exact ⟨by rw [← HE.out]; rfl, hBl⟩
  | true =>
  go_wp2_with fail
  refine (hnumbered_f B BN w1 p2 HP2).mono ?_
  rintro e W ⟨rfl, rfl⟩
  clear HP2
  cases p2 with
  | false =>
    have HE : Hid (2 = r) := (by show _ = _; rw [← HR.out, chk_rng (by rw [HG.out]; rfl)])
    clear HR HG
    go_wp2
    go_ret
    exact ⟨by rw [← HE.out]; rfl, hBl⟩
  | true =>
    obtain ⟨RO, hRO⟩ : ∃ r, oldL ⟨A, AN, B, BN, ls⟩ = r := ⟨_, rfl⟩
    obtain ⟨RN, hRN⟩ : ∃ r, newL ⟨A, AN, B, BN, ls⟩ = r := ⟨_, rfl⟩
    have HO : Hid (oldL ⟨A, AN, B, BN, ls⟩ = RO) := hRO
    have HN : Hid (newL ⟨A, AN, B, BN, ls⟩ = RN) := hRN
    have HF : Hid (fldB ls = (allB ls && checkB RO && checkB RN)) := (by show _ = _; rw [← hRO, ← hRN]; exact fld_code ls)
    have hROl : RO.length ≤ 1099511627776 := by rw [← hRO]; have := pkL_length 43 ls; simp only [oldL]; omega
    have hRNl : RN.length ≤ 1099511627776 := by rw [← hRN]; have := pkL_length 45 ls; simp only [newL]; omega
    have HROm : Hid (∀ a ∈ RO, a.length ≤ 1099511627776) := (by
      intro a ha
      rw [← hRO] at ha
      obtain ⟨m, hm, rfl⟩ := pk_mem ha
      exact HTX.out m hm)
    have HRNm : Hid (∀ a ∈ RN, a.length ≤ 1099511627776) := (by
      intro a ha
      rw [← hRN] at ha
      obtain ⟨m, hm, rfl⟩ := pk_mem ha
      exact HTX.out m hm)
    clear hRO hRN HTX
    have hxx : ∀ u : World, Low W u → Hx u w.heap.size ⟨A, AN, B, BN, ls⟩ (.slice lo ls.length lc) := fun u hu => hx.low hu
    go_upto_region 3 with fail
    go_cut [3, 4] from 5 to 51 (fun a b wz => ∃ oo oc no nc, a = .slice oo RO.length oc ∧ b = .slice no RN.length nc ∧ HS wz a RO ∧ HS wz b RN ∧ Below W.heap.size W wz)
    case first =>
      have hlow : Low W (W.drewN 1) := Below.dN (Below.refl _ W) 1
      refine wp_region_noPanic ?_
      refine wp_region_held_drew (S := fun u => Low W u) (by kernel_rfl) hlow (fun hHeld => ?_)
      refine go_take 0 19 _ (hkV ⟨A, AN, B, BN, ls⟩ (.slice lo ls.length lc)) rfl (by kernel_rfl) (by kernel_rfl) (by kernel_rfl) (by kernel_rfl) (fun _ _ _ h => h) (Or.inl ⟨by kernel_rfl, fun u hu => load_hk (hxx u hu) (.tmp 1) (by kernel_rfl) (by kernel_rfl)⟩) hHeld ?_
      simp only [Act.put, List.setIfInBounds_toArray, List.set_cons_zero, List.set_cons_succ]
      refine go_take 2 21 _ (hkV ⟨A, AN, B, BN, ls⟩ (.slice lo ls.length lc)) rfl (by kernel_rfl) (by kernel_rfl) (by kernel_rfl) (by kernel_rfl) (fun _ _ _ h => h) (Or.inl ⟨by kernel_rfl, fun u hu => load_hk (hxx u hu) (.tmp 1) (by kernel_rfl) (by kernel_rfl)⟩) hHeld ?_
      simp only [Act.put, List.setIfInBounds_toArray, List.set_cons_zero, List.set_cons_succ]
      refine go_callE 1 20 _ rfl (by kernel_rfl) (by kernel_rfl) (by kernel_rfl) 32 (.func 32) #[.tmp 19] #[43] (by kernel_rfl) #[] (by kernel_rfl) #[hkV ⟨A, AN, B, BN, ls⟩ (.slice lo ls.length lc)] (by kernel_rfl) (enters_of Tryd.func32 (by kernel_rfl) rfl) _ (hold_held hv1 hl HO hHeld) ?_
      rintro vo w1 hHeld1 ⟨hvo, hBo⟩
      obtain ⟨oo, oc, rfl⟩ := Holds.form hvo
      simp only [Act.put, List.setIfInBounds_toArray, List.set_cons_zero, List.set_cons_succ]
      refine go_callE 3 22 _ rfl (by kernel_rfl) (by kernel_rfl) (by kernel_rfl) 34 (.func 34) #[.tmp 21] #[43] (by kernel_rfl) #[] (by kernel_rfl) #[hkV ⟨A, AN, B, BN, ls⟩ (.slice lo ls.length lc)] (by kernel_rfl) (enters_of Tryd.func34 (by kernel_rfl) rfl) _ (hnew_held hv1 hl HN hHeld1) ?_
      rintro vn w2 hHeld ⟨hvn, hBn⟩
      obtain ⟨no, nc, rfl⟩ := Holds.form hvn
      simp only [Act.put, List.setIfInBounds_toArray, List.set_cons_zero, List.set_cons_succ]
      refine go_take 4 3 _ (.slice oo RO.length oc) rfl (by kernel_rfl) (by kernel_rfl) (by kernel_rfl) (by kernel_rfl) (fun _ _ _ h => h) (Or.inl ⟨by kernel_rfl, fun u hu => by kernel_rfl⟩) hHeld ?_
      simp only [Act.put, List.setIfInBounds_toArray, List.set_cons_zero, List.set_cons_succ]
      refine go_take 5 4 _ (.slice no RN.length nc) rfl (by kernel_rfl) (by kernel_rfl) (by kernel_rfl) (by kernel_rfl) (fun _ _ _ h => h) (Or.inl ⟨by kernel_rfl, fun u hu => by kernel_rfl⟩) hHeld ?_
      simp only [Act.put, List.setIfInBounds_toArray, List.set_cons_zero, List.set_cons_succ]
      refine wpAnyH_done (by kernel_rfl) ?_ _
      refine NoPanic.normal ?_
      go_wp2_with fail
      go_meet
      case rel => exact ⟨_, _, _, _, rfl, rfl, HS.keep hvo hBn (Nat.le_refl _), hvn, hHeld⟩
    case rest =>
      obtain ⟨oo, oc, no, nc, rfl, rfl, hvo, hvn, hBz⟩ := hcut
      have hB2 := hBl.trans (hBz.mono hBl.size)
      obtain ⟨y0, y1, y2, y3, y4⟩ := (hxx _ hBz).cells
      dsimp only at y0 y1 y2 y3 y4
      have hv2 := HMk.keep hv1 hBz (Nat.le_refl _)
      generalize wc = w2 at *
      clear x0 x1 x2 x3 x4
      obtain ⟨s, hs⟩ : ∃ s, allB ls = s := ⟨_, rfl⟩
      have HS1 : Hid (ls.any (fun m => !okS m.sg) = !s) := (by show _ = _; rw [any_strange, hs])
      have HF2 : Hid (fldB ls = (s && checkB RO && checkB RN)) := (by have h := HF.out; rw [hs] at h; exact h)
      clear HF hs
      go_wp2_with fail
      refine (hContains_f 47 ls (fun m => !okS m.sg) _ w2 hv2 hl (enters_of Tryd.func47 (by kernel_rfl) rfl) (fun m _ u => hstrange_f m u) (!s) HS1).mono ?_
      rintro e w3 ⟨rfl, hB3⟩
      have hx3 := (hxx _ hBz).low hB3
      have hvo3 := HS.keep hvo hB3 (Nat.le_refl _)
      have hvn3 := HS.keep hvn hB3 (Nat.le_refl _)
      have hv3 := HMk.keep hv2 hB3 (Nat.le_refl _)
      have hB4 := hB2.trans (hB3.mono hB2.size)
      obtain ⟨z0, z1, z2, z3, z4⟩ := hx3.cells
      dsimp only at z0 z1 z2 z3 z4
      clear y0 y1 y2 y3 y4 HS1
      cases s with
      | false =>
        have HE : Hid (6 = r) := (by show _ = _; rw [← HR.out, chk_fld HG.out (by rw [HF2.out]; rfl)])
        clear HR HG HF2
        go_wp2
        go_ret
        exact ⟨by rw [← HE.out]; rfl, hB4⟩
      | true =>
      obtain ⟨q1, hq1⟩ : ∃ q, checkB RO = q := ⟨_, rfl⟩
      obtain ⟨q2, hq2⟩ : ∃ q, checkB RN = q := ⟨_, rfl⟩
      have HQ1 : Hid (checkB RO = q1) := hq1
      have HQ2 : Hid (checkB RN = q2) := hq2
      have HF3 : Hid (fldB ls = (q1 && q2)) := (by have h := HF2.out; rw [hq1, hq2, Bool.true_and] at h; exact h)
      clear HF2 hq1 hq2
      cases q1 with
      | false =>
        have HE : Hid (6 = r) := (by show _ = _; rw [← HR.out, chk_fld HG.out (by rw [HF3.out]; rfl)])
        clear HR HG HF3
        go_wp2_with fail
        refine (hlCheck_f _ RO w3 hROl HROm.out hvo3 false HQ1 6 rfl).mono ?_
        rintro e w4 ⟨rfl, rfl⟩
        go_wp2
        go_ret
        exact ⟨by rw [← HE.out]; rfl, hB4⟩
      | true =>
      go_wp2_with fail
      refine (hlCheck_f _ RO w3 hROl HROm.out hvo3 true HQ1 0 rfl).mono ?_
      rintro e w4 ⟨rfl, rfl⟩
      cases q2 with
      | false =>
        have HE : Hid (6 = r) := (by show _ = _; rw [← HR.out, chk_fld HG.out (by rw [HF3.out]; rfl)])
        clear HR HG HF3
        go_wp2_with fail
        refine (hlCheck_f _ RN w3 hRNl HRNm.out hvn3 false HQ2 6 rfl).mono ?_
        rintro e w4 ⟨rfl, rfl⟩
        go_wp2
        go_ret
        exact ⟨by rw [← HE.out]; rfl, hB4⟩
      | true =>
      go_wp2_with fail
      refine (hlCheck_f _ RN w3 hRNl HRNm.out hvn3 true HQ2 0 rfl).mono ?_
      rintro e w4 ⟨rfl, rfl⟩
      have HFT : Hid (fldB ls = true) := (by have h := HF3.out; exact h)
      clear HF3 HQ1 HQ2
      by_cases ha : (RO.length : Int) = AN
      · have ea : ((RO.length : Int) != AN) = false := by simpa using ha
        by_cases hb : (RN.length : Int) = BN
        · have eb : ((RN.length : Int) != BN) = false := by simpa using hb
          obtain ⟨q, hq⟩ : ∃ q, ls.any chgB = q := ⟨_, rfl⟩
          have HQ : Hid (ls.any chgB = q) := hq
          have HE : Hid ((if q = true then 0 else 50) = r) := (by
            show _ = _
            rw [← HR.out, chk_end (h := ⟨A, AN, B, BN, ls⟩) HG.out HFT.out (by rw [HO.out, ha]) (by rw [HN.out, hb]) hq])
          clear HR HG HFT hq ha hb
          go_wp2_with fail
          refine (hContains_f 49 ls chgB _ w3 hv3 hl (enters_of Tryd.func49 (by kernel_rfl) rfl) (fun m _ u => hchanged_f m u) q HQ).mono ?_
          rintro e w5 ⟨rfl, hB5⟩
          have hB6 := hB4.trans (hB5.mono hB4.size)
          cases q with
          | false =>
            go_wp2
            go_ret
            exact ⟨by rw [← HE.out]; rfl, hB6⟩
          | true =>
            go_wp2
            go_ret
            exact ⟨by rw [← HE.out]; rfl, hB6⟩
        · have eb : ((RN.length : Int) != BN) = true := by simpa using hb
          have HE : Hid (120 = r) := (by
            show _ = _
            rw [← HR.out, chk_cnt (h := ⟨A, AN, B, BN, ls⟩) HG.out HFT.out (.inr (by rw [HN.out]; exact fun k => hb k.symm))])
          clear HR HG HFT ha hb
          go_wp2
          go_ret
          exact ⟨by rw [← HE.out]; rfl, hB4⟩
      · have ea : ((RO.length : Int) != AN) = true := by simpa using ha
        have HE : Hid (120 = r) := (by
          show _ = _
          rw [← HR.out, chk_cnt (h := ⟨A, AN, B, BN, ls⟩) HG.out HFT.out (.inl (by rw [HO.out]; exact fun k => ha k.symm))])
        clear HR HG HFT ha
        go_wp2
        go_ret
        exact ⟨by rw [← HE.out]; rfl, hB4⟩
end Go.Proofs.YtgiojkhmkeocfaaDoor
