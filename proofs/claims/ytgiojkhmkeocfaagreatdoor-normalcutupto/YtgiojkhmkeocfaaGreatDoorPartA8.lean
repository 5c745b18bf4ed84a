/-
  Texts that belong together, joined: NpM, NpF, NpG, NpH, NoPs, NpN, NpX, NpC.
-/
import Derived.Test.YtgiojkhmkeocfaaGreatDoorPartA7
import Derived.Test.YtgiojkhmkeocfaaGreatDoorPartA5
import Derived.Test.YtgiojkhmkeocfaaGreatDoorPartA6
import Derived.Lib.OthersKept
import Derived.Laws.RangeAny
import Derived.Lib.IndexAny
import Derived.Deep.QuietTactic
import Derived.BigQuiet
import Derived.Deep.CutBlock

/- The normal form as the code reads it, and that it is read as the plain reader does; plain mathematics. -/
set_option maxRecDepth 20000
namespace Go.Proofs.YtgiojkhmkeocfaaGreatDoor
open Ln

/-- so many lines with a sign, with their line feeds -/
def rdL (sg : List UInt8) (S : Int) : Nat → Nat → List (List UInt8) → Except (Nat × Int) (List Mk × Nat × List (List UInt8))
  | 0, p, ls => .ok ([], p, ls)
  | n + 1, p, ls => match nxt p ls with
    | .error e => .error e
    | .ok (s, r) => if sg.isPrefixOf s = true then match rdL sg S n (p + 1) r with
        | .error e => .error e
        | .ok (l, p2, r2) => .ok (⟨S, s.drop sg.length ++ [10]⟩ :: l, p2, r2)
      else .error (p + 1, 3)
/-- the last text without its line feed -/
def cutL : List Mk → List Mk
  | [] => []
  | [m] => [⟨m.sg, m.tx.dropLast⟩]
  | m :: l => m :: cutL l
def lastT (l : List Mk) : List UInt8 := (l.getLast?.map (·.tx)).getD []
/-- does the last line lose its line feed? -/
def endK (l : List Mk) (r : List (List UInt8)) : Bool := lastT l != [10] && pkM r
/-- a side as the code reads it -/
def sdC (sg : List UInt8) (S : Int) (n p : Nat) (ls : List (List UInt8)) : Except (Nat × Int) (List Mk × Nat × List (List UInt8)) :=
  match rdL sg S n p ls with
  | .error e => .error e
  | .ok (l, p1, r) => if (decide (0 < n) && endK l r) = true then .ok (cutL l, p1 + 1, r.tail) else .ok (l, p1, r)
/-- a hunk as the code reads it -/
def hkK (k p : Nat) (ls : List (List UInt8)) : Except (Nat × Int) (Hk × Nat × List (List UInt8)) :=
  match nxt p ls with
  | .error e => .error e
  | .ok (s, r) => match cmdP s with
    | none => .error (p + 1, 3)
    | some (A, AN, B, BN) => if k = 4096 then .error (p + 1, 9) else match sdC [60, 32] 45 AN.toNat (p + 1) r with
      | .error e => .error e
      | .ok (l1, p1, r1) => match (if 0 < AN ∧ 0 < BN then sepP p1 r1 else .ok (p1, r1)) with
        | .error e => .error e
        | .ok (p2, r2) => match sdC [62, 32] 43 BN.toNat p2 r2 with
          | .error e => .error e
          | .ok (l2, p3, r3) => .ok (⟨A, AN, B, BN, l1 ++ l2⟩, p3, r3)
def hksK : Nat → Nat → Nat → List (List UInt8) → Except (Nat × Int) (List Hk)
  | 0, _, _, _ => .ok []
  | f + 1, k, p, ls => if ls = [] then .ok [] else match hkK k p ls with
    | .error e => .error e
    | .ok (h, p1, r) => match hksK f (k + 1) p1 r with
      | .error e => .error e
      | .ok l => .ok (h :: l)
/-- a side that is followed by a mark behind an empty line: wrong in both ways of reading -/
def Bad (X Y : Except (Nat × Int) (List Mk × Nat × List (List UInt8))) : Prop := ∃ l p r, Y = .ok (l, p, markT :: r) ∧ X = .error (p + 1, 3)
theorem mark_eq {s : List UInt8} (hp : ∀ c ∈ s.dropLast, c ≠ 10) (h : markT.isPrefixOf s = true) : s = markT := by
  rw [List.isPrefixOf_iff_prefix] at h
  obtain ⟨t, rfl⟩ := h
  cases t with
  | nil => simp
  | cons c t =>
    exfalso
    have h1 : (10 : UInt8) ∈ (markT ++ c :: t).dropLast := by
      rw [List.dropLast_append_of_ne_nil (by simp)]
      exact List.mem_append_left _ (by decide)
    exact hp 10 h1 rfl
theorem cutL_cons {m : Mk} {l : List Mk} (h : l ≠ []) : cutL (m :: l) = m :: cutL l := by
  cases l with
  | nil => exact absurd rfl h
  | cons y l => rfl
theorem cutL_snoc (l : List Mk) (m : Mk) : cutL (l ++ [m]) = l ++ [⟨m.sg, m.tx.dropLast⟩] := by
  induction l with
  | nil => rfl
  | cons x l ih =>
    rw [List.cons_append, cutL_cons (by simp), ih]
    rfl
theorem lastT_snoc (l : List Mk) (m : Mk) : lastT (l ++ [m]) = m.tx := by simp [lastT]
theorem sdC_zero (sg : List UInt8) (S : Int) (p : Nat) (ls : List (List UInt8)) : sdC sg S 0 p ls = .ok ([], p, ls) := by
  unfold sdC rdL
  rfl
theorem lastT_cons {m : Mk} {l : List Mk} (h : l ≠ []) : lastT (m :: l) = lastT l := by
  cases l with
  | nil => exact absurd rfl h
  | cons y l => simp [lastT]
theorem rdL_len {sg : List UInt8} {S : Int} (n : Nat) : ∀ {p : Nat} {ls : List (List UInt8)} {l : List Mk} {p1 : Nat} {r : List (List UInt8)}, rdL sg S n p ls = .ok (l, p1, r) → l.length = n ∧ p1 = p + n ∧ ls.drop n = r ∧ n ≤ ls.length := by
  induction n with
  | zero =>
    intro p ls l p1 r h
    simp only [rdL] at h
    cases h
    exact ⟨rfl, rfl, rfl, Nat.zero_le _⟩
  | succ n ih =>
    intro p ls l p1 r h
    simp only [rdL] at h
    split at h
    · cases h
    · rename_i s r0 hn
      have hls := nxt_ok hn
      split at h
      · split at h
        · cases h
        · rename_i l' q r' hq
          obtain ⟨a1, a2, a3, a4⟩ := ih hq
          cases h
          subst hls
          exact ⟨by simp [a1], by omega, by simpa using a3, by simp; omega⟩
      · cases h
/-- the two ways of reading a side -/
theorem side_both {sg : List UInt8} {S : Int} (n : Nat) : ∀ {p : Nat} {ls : List (List UInt8)}, Plain ls → rdN sg S n p ls = sdC sg S n p ls ∨ Bad (rdN sg S n p ls) (sdC sg S n p ls) := by
  induction n with
  | zero =>
    intro p ls _
    left
    rw [sdC_zero]
    rfl
  | succ n ih =>
    intro p ls hP
    unfold sdC
    simp only [rdN, rdL, mkd]
    cases hn : nxt p ls with
    | error e => left; rfl
    | ok z =>
      obtain ⟨s, r⟩ := z
      dsimp only
      have hls := nxt_ok hn
      subst hls
      have hPr : Plain r := fun x hx => hP x (by simp [hx])
      have hsn : ∀ c ∈ s, c ≠ 10 := by
        have := hP (s ++ [10]) (by simp)
        simpa using this
      by_cases hpre : sg.isPrefixOf s = true
      · rw [if_pos hpre, if_pos hpre]
        cases n with
        | zero =>
          simp only [rdN, rdL]
          have e1 : ((0 : Nat) == 0) = true := rfl
          rw [e1, Bool.true_and]
          have e2 : lastT [(⟨S, s.drop sg.length ++ [10]⟩ : Mk)] = s.drop sg.length ++ [10] := rfl
          unfold endK
          rw [e2]
          have e3 : decide (0 < 0 + 1) = true := rfl
          rw [e3, Bool.true_and]
          cases hk : pkM r with
          | false =>
            left
            rw [if_neg (by decide), Bool.and_false, if_neg (by decide)]
          | true =>
            rw [if_pos rfl, Bool.and_true]
            by_cases hem : s.drop sg.length = []
            · right
              rw [if_pos hem, hem]
              rw [if_neg (by decide)]
              cases r with
              | nil => cases hk
              | cons y r =>
                have : y = markT := mark_eq (hPr y (by simp)) hk
                subst this
                exact ⟨_, _, _, rfl, rfl⟩
            · left
              have e4 : (s.drop sg.length ++ [10] != [10]) = true := by
                rw [bne_iff_ne]
                intro h
                apply hem
                have := congrArg List.length h
                simp at this
                exact List.eq_nil_of_length_eq_zero (by simpa using this)
              rw [if_neg hem, e4, if_pos rfl]
              simp [cutL]
        | succ n =>
          have e1 : ((n + 1 : Nat) == 0) = false := rfl
          rw [e1, Bool.false_and, if_neg (by decide)]
          dsimp only
          have hi := @ih (p + 1) r hPr
          unfold sdC at hi
          cases hL : rdL sg S (n + 1) (p + 1) r with
          | error e =>
            rw [hL] at hi
            left
            rcases hi with hi | ⟨_, _, _, h, _⟩
            · rw [hi]
            · cases h
          | ok z =>
            obtain ⟨l, p1, r1⟩ := z
            rw [hL] at hi
            dsimp only at hi ⊢
            have hlen := (rdL_len _ hL).1
            have hne : l ≠ [] := by
              rintro rfl
              simp at hlen
            unfold endK at hi ⊢
            rw [lastT_cons hne, cutL_cons hne]
            have e3 : decide (0 < n + 1) = true := decide_eq_true (by omega)
            have e4 : decide (0 < n + 1 + 1) = true := decide_eq_true (by omega)
            rw [e3] at hi
            rw [e4]
            by_cases hb : (true && (lastT l != [10] && pkM r1)) = true
            · rw [if_pos hb] at hi ⊢
              rcases hi with hi | ⟨l', p', r', h, h'⟩
              · left
                rw [hi]
              · right
                simp only [Except.ok.injEq, Prod.mk.injEq] at h
                obtain ⟨rfl, rfl, h⟩ := h
                exact ⟨_, _, r', by rw [h], by rw [h']⟩
            · rw [if_neg hb] at hi ⊢
              rcases hi with hi | ⟨l', p', r', h, h'⟩
              · left
                rw [hi]
              · right
                cases h
                exact ⟨_, _, _, rfl, by rw [h']⟩
      · left
        rw [if_neg hpre, if_neg hpre]
theorem sdC_drop {sg : List UInt8} {S : Int} {n p : Nat} {ls : List (List UInt8)} {l : List Mk} {p1 : Nat} {r : List (List UInt8)} (h : sdC sg S n p ls = .ok (l, p1, r)) : ∃ j, r = ls.drop j ∧ p1 = p + j ∧ j ≤ ls.length := by
  unfold sdC at h
  split at h
  · cases h
  · rename_i l' q r' hq
    obtain ⟨a1, a2, a3, a4⟩ := rdL_len _ hq
    split at h
    · rename_i hb
      cases h
      have hk : pkM r' = true := by
        unfold endK at hb
        simp only [Bool.and_eq_true] at hb
        exact hb.2.2
      have h1 : 0 < r'.length := by
        cases r' with
        | nil => cases hk
        | cons => simp
      rw [← a3, List.length_drop] at h1
      exact ⟨n + 1, by rw [← a3, List.tail_drop], by omega, by omega⟩
    · cases h
      exact ⟨n, a3.symm, a2, a4⟩
theorem cutL_len (l : List Mk) : (cutL l).length = l.length := by
  induction l with
  | nil => rfl
  | cons m l ih =>
    cases l with
    | nil => rfl
    | cons y l => rw [cutL_cons (by simp), List.length_cons, ih]; rfl
theorem sdC_len {sg : List UInt8} {S : Int} {n p : Nat} {ls : List (List UInt8)} {l : List Mk} {p1 : Nat} {r : List (List UInt8)} (h : sdC sg S n p ls = .ok (l, p1, r)) : l.length = n := by
  unfold sdC at h
  split at h
  · cases h
  · rename_i l' q r' hq
    obtain ⟨a1, a2, a3, a4⟩ := rdL_len _ hq
    split at h
    · cases h
      rw [cutL_len, a1]
    · cases h
      exact a1
theorem sepP_drop {p p1 : Nat} {ls r : List (List UInt8)} (h : sepP p ls = .ok (p1, r)) : r = ls.drop 1 ∧ p1 = p + 1 ∧ 1 ≤ ls.length := by
  unfold sepP at h
  split at h
  · cases h
  · rename_i s r0 hn
    have := nxt_ok hn
    subst this
    split at h
    · cases h
      exact ⟨rfl, rfl, by simp⟩
    · cases h
theorem hkK_drop {k p p1 : Nat} {ls r : List (List UInt8)} {h : Hk} (hh : hkK k p ls = .ok (h, p1, r)) : ∃ j, r = ls.drop j ∧ p1 = p + j ∧ 1 ≤ j ∧ j ≤ ls.length ∧ k ≠ 4096 := by
  unfold hkK at hh
  split at hh
  · cases hh
  · rename_i s r0 hn
    have := nxt_ok hn
    subst this
    split at hh
    · cases hh
    · split at hh
      · cases hh
      · rename_i hk
        split at hh
        · cases hh
        · rename_i l1 q1 r1 h1
          obtain ⟨j1, b1, b2, b3⟩ := sdC_drop h1
          split at hh
          · cases hh
          · rename_i q2 r2 h2
            have hs : ∃ j, r2 = r1.drop j ∧ q2 = q1 + j ∧ j ≤ r1.length := (by
              split at h2
              · obtain ⟨c1, c2, c3⟩ := sepP_drop h2
                exact ⟨1, c1, c2, c3⟩
              · cases h2
                exact ⟨0, rfl, rfl, Nat.zero_le _⟩)
            obtain ⟨j2, c1, c2, c3⟩ := hs
            split at hh
            · cases hh
            · rename_i l2 q3 r3 h3
              obtain ⟨j3, d1, d2, d3⟩ := sdC_drop h3
              cases hh
              subst d1 c1 b1
              simp only [List.length_drop] at c3 d3
              refine ⟨1 + (j1 + (j2 + j3)), ?_, by omega, by omega, by simp only [List.length_cons]; omega, hk⟩
              rw [List.drop_drop, List.drop_drop, Nat.add_comm 1, List.drop_succ_cons]
theorem plain_drop {ls : List (List UInt8)} (h : Plain ls) (j : Nat) : Plain (ls.drop j) := fun x hx => h x (List.mem_of_mem_drop hx)
theorem mark_nxt (p : Nat) (r : List (List UInt8)) : nxt p (markT :: r) = .ok (markT.dropLast, r) := rfl
theorem mark_cmd : cmdP markT.dropLast = none := by decide +kernel
theorem mark_sep (p : Nat) (r : List (List UInt8)) : sepP p (markT :: r) = .error (p + 1, 3) := by
  unfold sepP
  rw [mark_nxt]
  rfl
theorem mark_hk (k p : Nat) (r : List (List UInt8)) : hkK k p (markT :: r) = .error (p + 1, 3) ∧ hkP k p (markT :: r) = .error (p + 1, 3) := by
  unfold hkK hkP
  rw [mark_nxt]
  dsimp only
  rw [mark_cmd]
  exact ⟨rfl, rfl⟩
theorem hk_both {k p : Nat} {ls : List (List UInt8)} (hP : Plain ls) (hk : k ≤ 4096) : hkP k p ls = hkK k p ls ∨ ∃ h p1 r, hkK k p ls = .ok (h, p1, markT :: r) ∧ hkP k p ls = .error (p1 + 1, 3) := by
  unfold hkP hkK
  cases hn : nxt p ls with
  | error e => left; rfl
  | ok z =>
    obtain ⟨s, r⟩ := z
    dsimp only
    have hls := nxt_ok hn
    subst hls
    have hPr : Plain r := fun x hx => hP x (by simp [hx])
    cases hc : cmdP s with
    | none => left; rfl
    | some z =>
      obtain ⟨A, AN, B, BN⟩ := z
      dsimp only
      by_cases hk2 : k = 4096
      · left
        rw [if_pos (by omega), if_pos hk2]
      · rw [if_neg (by omega), if_neg hk2]
        have hr := cmd_right hc
        rcases @side_both [60, 32] 45 AN.toNat (p + 1) r hPr with h1 | ⟨l, q, r', h1, h2⟩
        · rw [h1]
          cases hs : sdC [60, 32] 45 AN.toNat (p + 1) r with
          | error e => left; rfl
          | ok z =>
            obtain ⟨l1, p1, r1⟩ := z
            dsimp only
            obtain ⟨j, b1, _, _⟩ := sdC_drop hs
            have hP1 : Plain r1 := by rw [b1]; exact plain_drop hPr j
            cases hp : (if 0 < AN ∧ 0 < BN then sepP p1 r1 else Except.ok (p1, r1)) with
            | error e => left; rfl
            | ok z =>
              obtain ⟨p2, r2⟩ := z
              dsimp only
              have hP2 : Plain r2 := (by
                split at hp
                · obtain ⟨c1, _, _⟩ := sepP_drop hp
                  rw [c1]
                  exact plain_drop hP1 1
                · cases hp
                  exact hP1)
              rcases @side_both [62, 32] 43 BN.toNat p2 r2 hP2 with h3 | ⟨l, q, r', h3, h4⟩
              · left
                rw [h3]
                cases sdC [62, 32] 43 BN.toNat p2 r2 <;> rfl
              · right
                rw [h3, h4]
                exact ⟨_, _, _, rfl, rfl⟩
        · rw [h1, h2]
          dsimp only
          by_cases hb : 0 < AN ∧ 0 < BN
          · left
            rw [if_pos hb, mark_sep]
          · rw [if_neg hb]
            dsimp only
            have hBN : BN.toNat = 0 := (by
              have hA : AN.toNat ≠ 0 := (by
                intro h0
                rw [h0] at h2
                cases h2)
              omega)
            rw [hBN, sdC_zero]
            right
            exact ⟨_, _, _, rfl, rfl⟩
theorem hks_both (f : Nat) : ∀ {k p : Nat} {ls : List (List UInt8)}, Plain ls → ls.length ≤ f → k ≤ 4096 → hksP f k p ls = hksK f k p ls := by
  induction f with
  | zero => intros; rfl
  | succ f ih =>
    intro k p ls hP hf hk
    simp only [hksP, hksK]
    by_cases h0 : ls = []
    · rw [if_pos h0, if_pos h0]
    · rw [if_neg h0, if_neg h0]
      rcases @hk_both k p ls hP hk with h | ⟨h, p1, r, h1, h2⟩
      · rw [h]
        cases hc : hkK k p ls with
        | error e => rfl
        | ok z =>
          obtain ⟨h', p1, r⟩ := z
          obtain ⟨j, b1, b2, b3, b4, b5⟩ := hkK_drop hc
          dsimp only
          rw [@ih (k + 1) p1 r (by rw [b1]; exact plain_drop hP j) (by rw [b1, List.length_drop]; omega) (by omega)]
          cases hksK f (k + 1) p1 r <;> rfl
      · rw [h1, h2]
        dsimp only
        obtain ⟨j, b1, b2, b3, b4, b5⟩ := hkK_drop h1
        have hl : (markT :: r).length ≤ f := by rw [b1, List.length_drop]; omega
        cases f with
        | zero => simp at hl
        | succ f =>
          simp only [hksK]
          rw [if_neg (by simp), (mark_hk (k + 1) p1 r).1]
/-- a text as the code reads it -/
theorem prs_code (t : List UInt8) : prsT t = if 1048576 < t.length then .error (0, 9) else hksK (splitL t).length 0 0 (splitL t) := by
  unfold prsT
  split
  · rfl
  · exact hks_both _ (split_plain t) (Nat.le_refl _) (by omega)
end Go.Proofs.YtgiojkhmkeocfaaGreatDoor

/- The code's reader, walked: the line between, the end of a side, a side. -/
set_option maxRecDepth 20000
namespace Go.Proofs.YtgiojkhmkeocfaaGreatDoor
open Go.RowKit
attribute [local go_sem] ByteArray.extract_mk no_at

/-- all below B but the reader's block is as it was -/
structure Fr (B R : Nat) (w w' : World) : Prop where
  os : w'.os = w.os
  tape : w'.tape = w.tape
  output : w'.output = w.output
  size : w.heap.size ≤ w'.heap.size
  block : ∀ k, k < B → k ≠ R → w'.heap[k]? = w.heap[k]?
theorem Fr.refl (B R : Nat) (w : World) : Fr B R w w := ⟨rfl, rfl, rfl, Nat.le_refl _, fun _ _ _ => rfl⟩
theorem Fr.trans {B R : Nat} {w u v : World} (h : Fr B R w u) (h' : Fr B R u v) : Fr B R w v := ⟨h'.os.trans h.os, h'.tape.trans h.tape, h'.output.trans h.output, Nat.le_trans h.size h'.size, fun k h1 h2 => (h'.block k h1 h2).trans (h.block k h1 h2)⟩
theorem Fr.of {B R : Nat} {w u : World} (h : w.grownBy u (some R)) (hB : B ≤ w.heap.size) : Fr B R w u := ⟨h.os, h.tape, h.output, h.size, fun k h1 h2 => h.block k (Nat.lt_of_lt_of_le h1 hB) (fun e => h2 (Option.some.inj e))⟩
theorem Fr.own {B R : Nat} {w u : World} {g : Option Nat} (h : w.grownBy u g) (hB : B ≤ w.heap.size) (hg : ∀ j, g = some j → B ≤ j) : Fr B R w u := ⟨h.os, h.tape, h.output, h.size, fun k h1 _ => h.block k (Nat.lt_of_lt_of_le h1 hB) (fun e => by have := hg k e.symm; omega)⟩
theorem Fr.low {B R : Nat} {w u : World} (h : Below w.heap.size w u) (hB : B ≤ w.heap.size) : Fr B R w u := Fr.of (low_grown h _) hB
theorem Fr.grown {R : Nat} {w u : World} (h : Fr w.heap.size R w u) : w.grownBy u (some R) := ⟨h.os, h.tape, h.output, h.size, fun k h1 h2 => h.block k h1 (fun e => h2 (by rw [e]))⟩
/-- what the line between leaves behind -/
def SpQ (R : Nat) (vL : Value) (X : Except (Nat × Int) (Nat × List (List UInt8))) (w : World) (x : Ending) (w' : World) : Prop :=
  match X with
  | .error (a, e) => Thr (a : Int) e x w' ∧ w.grownBy w' (some R)
  | .ok (p1, _) => x = .returned (.tuple #[]) ∧ Ry w' R vL (p1 : Int) ∧ w.grownBy w' (some R)
set_option maxHeartbeats 4000000 in
theorem ndivider_f {R : Nat} {L : List (List UInt8)} {lo : Option Addr} {lc : Nat} {p : Nat} (w : World) (q : Ry w R (.slice lo L.length lc) p) (hL : HS w (.slice lo L.length lc) L) (hp : p ≤ L.length) (hLl : L.length ≤ 2199023255552) (hs : ∀ s ∈ L, s.length ≤ 1099511627776)
    (X : Except (Nat × Int) (Nat × List (List UInt8))) (HX : Hid (sepP p (L.drop p) = X)) :
    Calls Tryz.prog 141 #[.pointer (some ⟨R, 0, none⟩)] w fun x w' => SpQ R (.slice lo L.length lc) X w x w' := by
  obtain ⟨Y, hY⟩ : ∃ Y, nxt p (L.drop p) = Y := ⟨_, rfl⟩
  have hl := nline_f w q hL hp hLl hs Y hY
  have hX := HX.out
  clear HX
  unfold sepP at hX
  rw [hY] at hX
  cases Y with
  | error z =>
    obtain ⟨a, e⟩ := z
    dsimp only at hX
    subst hX
    go_enter Tryz.func141, Tryz.ntmps141
    go_wp2_with fail
    refine hl.mono ?_
    rintro x w1 ⟨⟨g, rfl, hg⟩, hgr⟩
    go_wp2
    exact ⟨rfl, ⟨_, rfl, hg⟩, hgr⟩
  | ok z =>
    obtain ⟨s, r⟩ := z
    dsimp only at hX
    by_cases h : s = [45, 45, 45]
    · rw [if_pos h] at hX
      subst hX h
      go_enter Tryz.func141, Tryz.ntmps141
      go_wp2_with fail
      refine hl.mono ?_
      rintro x w1 ⟨rfl, n, rfl⟩
      have q1 := q.dN n
      have g1 := grown_drewN (low_grown (Below.refl w.heap.size w) (some R)) n
      generalize w.drewN n = W1 at q1 g1 ⊢
      obtain ⟨c0, c1⟩ := q1.cells
      have f1 := q1.frozen 1
      have HQ : Hid (Ry (W1.setCell ⟨R, 1, none⟩ (.int .i64 ((p : Int) + 1))) R (.slice lo L.length lc) (((p + 1 : Nat)) : Int) ∧ w.grownBy (W1.setCell ⟨R, 1, none⟩ (.int .i64 ((p : Int) + 1))) (some R)) := ⟨by have := q1.at ((p : Int) + 1); simpa using this, grown_two g1 (grown_set W1 R 1 _)⟩
      clear q q1 g1 hl hY
      go_wp2
      first
        | go_end0
        | refine bodyPost_ret (results_none rfl _ _ _) rfl ?_
        | refine bodyPost_end (results_none rfl _ _ _) rfl ?_
      exact ⟨rfl, HQ.out⟩
    · rw [if_neg h] at hX
      subst hX
      have hne : (s ++ [10] == [45, 45, 45, 10]) = false := (by
        rw [beq_eq_false_iff_ne]
        intro e
        have e2 : s ++ [10] = [45, 45, 45] ++ [10] := e
        exact h (List.append_cancel_right e2))
      have q1 := fun n => q.dN n
      have g1 := fun n => grown_drewN (low_grown (Below.refl w.heap.size w) (some R)) n
      go_enter Tryz.func141, Tryz.ntmps141
      go_wp2_with fail
      refine hl.mono ?_
      rintro x w1 ⟨rfl, n, rfl⟩
      go_wp2_with fail
      refine (nthrow_f 3 _ (q1 n) (by omega)).mono ?_
      rintro e w3 ⟨⟨g, rfl, hg⟩, hgr⟩
      go_wp2
      exact ⟨rfl, ⟨_, rfl, by simpa using hg⟩, grown_two (g1 n) hgr⟩
end Go.Proofs.YtgiojkhmkeocfaaGreatDoor

/- The code's reader, walked: the end of a side. -/
set_option maxRecDepth 20000
namespace Go.Proofs.YtgiojkhmkeocfaaGreatDoor
open Go.RowKit
attribute [local go_sem] ByteArray.extract_mk no_at

theorem pkM_at {L : List (List UInt8)} (hP : Plain L) {p : Nat} (h : p < L.length) : pkM (L.drop p) = (L[p] == markT) := by
  rw [List.drop_eq_getElem_cons h]
  unfold pkM
  rw [Bool.eq_iff_iff, beq_iff_eq]
  constructor
  · intro q
    exact mark_eq (hP _ (List.getElem_mem h)) q
  · intro q
    rw [q]
    show markT.isPrefixOf markT = true
    decide
set_option maxHeartbeats 4000000 in
theorem nend_no {R g o : Nat} {L : List (List UInt8)} {lo : Option Addr} {lc : Nat} {p : Nat} (w : World) (q : Ry w R (.slice lo L.length lc) p) (hL : HS w (.slice lo L.length lc) L) (hPl : Plain L) (hp : p ≤ L.length) (hLl : L.length ≤ 2199023255552)
    (t : List UInt8) (ct : w.cell? ⟨g, o + 1, none⟩ = some (.string ⟨t.toArray⟩)) (HB : Hid ((t != [10] && pkM (L.drop p)) = false)) :
    Calls Tryz.prog 201 #[.pointer (some ⟨R, 0, none⟩), .pointer (some ⟨g, o, none⟩)] w fun x w' => x = .returned (.tuple #[]) ∧ ∃ n, w' = w.drewN n := by
  obtain ⟨c0, c1⟩ := q.cells
  by_cases ht : t = [10]
  · subst ht
    clear HB hL q
    go_enter Tryz.func201, Tryz.ntmps201
    go_wp2_with fail
    go_quiet (fail)
    go_wp2
    first
      | go_end0
      | refine bodyPost_ret (results_none rfl _ _ _) rfl ?_
      | refine bodyPost_end (results_none rfl _ _ _) rfl ?_
    exact ⟨rfl, _, rfl⟩
  · have e1 : (t == [10]) = false := beq_eq_false_iff_ne.2 ht
    by_cases hlt : p < L.length
    · have hm : (L[p] == markT) = false := (by
        have h := HB.out
        rw [pkM_at hPl hlt] at h
        have : (t != [10]) = true := bne_iff_ne.2 ht
        rw [this, Bool.true_and] at h
        exact h)
      obtain ⟨bk, off, rfl, hbk, hcl⟩ := HS.at hL (by omega)
      have d4 := hcl p hlt
      generalize L[p] = s at d4 hm
      have hm2 : (s == [92, 32, 78, 111, 32, 110, 101, 119, 108, 105, 110, 101, 32, 97, 116, 32, 101, 110, 100, 32, 111, 102, 32, 102, 105, 108, 101, 10]) = false := hm
      have hm3 : (s != [92, 32, 78, 111, 32, 110, 101, 119, 108, 105, 110, 101, 32, 97, 116, 32, 101, 110, 100, 32, 111, 102, 32, 102, 105, 108, 101, 10]) = true := (by unfold bne; rw [hm2]; rfl)
      have e0 : ((p : Int) == (L.length : Int)) = false := beq_eq_false_iff_ne.2 (by omega)
      clear HB hL q hcl hm hPl
      have i1 : (0 : Int) ≤ (p : Int) := by omega
      have i2 : (p : Int) < (L.length : Int) := by omega
      have i3 : (p : Int).toNat = p := by omega
      go_enter Tryz.func201, Tryz.ntmps201
      go_wp2_with fail
      go_quiet (fail)
      go_wp2
      first
        | go_end0
        | refine bodyPost_ret (results_none rfl _ _ _) rfl ?_
        | refine bodyPost_end (results_none rfl _ _ _) rfl ?_
      exact ⟨rfl, _, rfl⟩
    · have e0 : ((p : Int) == (L.length : Int)) = true := beq_iff_eq.2 (by omega)
      clear HB hL q hPl
      go_enter Tryz.func201, Tryz.ntmps201
      go_wp2_with fail
      go_quiet (fail)
      go_wp2
      first
        | go_end0
        | refine bodyPost_ret (results_none rfl _ _ _) rfl ?_
        | refine bodyPost_end (results_none rfl _ _ _) rfl ?_
      exact ⟨rfl, _, rfl⟩
set_option maxRecDepth 20000 in
set_option maxHeartbeats 4000000 in
theorem nend_yes {R g o : Nat} {L : List (List UInt8)} {lo : Option Addr} {lc : Nat} {p : Nat} (w : World) (q : Ry w R (.slice lo L.length lc) p) (hL : HS w (.slice lo L.length lc) L) (hPl : Plain L) (hLl : L.length ≤ 2199023255552) (hgR : R ≠ g)
    (T t : List UInt8) (HTt : Hid (T = t ++ [10])) (htl : T.length ≤ 1099511627776) (ct : w.cell? ⟨g, o + 1, none⟩ = some (.string ⟨T.toArray⟩)) (cf : w.frozen? ⟨g, o + 1, none⟩ = false) (HB : Hid ((T != [10] && pkM (L.drop p)) = true)) :
    Calls Tryz.prog 201 #[.pointer (some ⟨R, 0, none⟩), .pointer (some ⟨g, o, none⟩)] w fun x w' => x = .returned (.tuple #[]) ∧ ∃ n, w' = ((w.drewN n).setCell ⟨g, o + 1, none⟩ (.string ⟨t.toArray⟩)).setCell ⟨R, 1, none⟩ (.int .i64 ((p : Int) + 1)) := by
  obtain ⟨c0, c1⟩ := q.cells
  have hb := HB.out
  rw [Bool.and_eq_true] at hb
  have hlt : p < L.length := (by
    by_cases h : p < L.length
    · exact h
    · have e : L.drop p = [] := List.drop_eq_nil_of_le (by omega)
      rw [e] at hb
      cases hb.2)
  have e1 : (T == [10]) = false := (by
    have := bne_iff_ne.1 hb.1
    exact beq_eq_false_iff_ne.2 this)
  have hm : L[p] = markT := (by
    have h := hb.2
    rw [pkM_at hPl hlt, beq_iff_eq] at h
    exact h)
  obtain ⟨bk, off, rfl, hbk, hcl⟩ := HS.at hL (by omega)
  have d4 := hcl p hlt
  rw [hm] at d4
  have e0 : ((p : Int) == (L.length : Int)) = false := beq_eq_false_iff_ne.2 (by omega)
  have f1 := q.frozen 1
  have HTS : Hid (Lib.trimSuffix T [10] = t) := (by
    show _ = _
    rw [HTt.out]
    unfold Lib.trimSuffix
    rw [suf_feed, if_pos (fd_snoc t)]
    simp)
  unfold markT at d4
  clear HB hL q hcl hm hPl hb
  have i1 : (0 : Int) ≤ (p : Int) := by omega
  have i2 : (p : Int) < (L.length : Int) := by omega
  have i3 : (p : Int).toNat = p := by omega
  go_enter Tryz.func201, Tryz.ntmps201
  go_wp2_with fail
  go_quiet (fail)
  go_wp2_with fail
  have c1' : (w.drewN nq).cell? ⟨R, 1, none⟩ = _ := c1
  have ct' : (w.drewN nq).cell? ⟨g, o + 1, none⟩ = _ := ct
  have cf' : (w.drewN nq).frozen? ⟨g, o + 1, none⟩ = false := cf
  have f1' : (w.drewN nq).frozen? ⟨R, 1, none⟩ = false := f1
  have HM : Hid (∃ k, w.drewN nq = w.drewN k) := ⟨_, rfl⟩
  clear c0 c1 d4 ct cf f1
  generalize w.drewN nq = W1 at c1' ct' cf' f1' HM ⊢
  refine (Tryz.strings_TrimSuffix ⟨T.toArray⟩ ⟨#[10]⟩ W1 (by show T.length ≤ _; omega)).mono ?_
  rintro e w2 ⟨rfl, rfl⟩
  have e2 : Lib.trimSuffix (⟨T.toArray⟩ : ByteArray).data.toList (⟨#[10]⟩ : ByteArray).data.toList = t := HTS.out
  rw [e2]
  clear e2
  have c1'' : (w2.setCell ⟨g, o + 1, none⟩ (.string ⟨t.toArray⟩)).cell? ⟨R, 1, none⟩ = some (.int .i64 (p : Int)) := (by
    have h := (grown_set w2 g (o + 1) (.string ⟨t.toArray⟩)).cell c1' (fun e => hgR (Option.some.inj e))
    exact h)
  have f1'' : (w2.setCell ⟨g, o + 1, none⟩ (.string ⟨t.toArray⟩)).frozen? ⟨R, 1, none⟩ = false := (by
    unfold World.frozen? at f1' ⊢
    dsimp only at f1' ⊢
    rw [Below.heap_setCell _ _ _ R hgR]
    exact f1')
  go_wp2
  first
    | go_end0
    | refine bodyPost_ret (results_none rfl _ _ _) rfl ?_
    | refine bodyPost_end (results_none rfl _ _ _) rfl ?_
  obtain ⟨k, hk⟩ := HM.out
  exact ⟨rfl, k, by rw [← hk]⟩
end Go.Proofs.YtgiojkhmkeocfaaGreatDoor

/- The code's reader, walked: a side of a hunk. -/
set_option maxRecDepth 20000
namespace Go.Proofs.YtgiojkhmkeocfaaGreatDoor
open Go.RowKit
attribute [local go_sem] ByteArray.extract_mk no_at

theorem owns_fr {w u : World} {B R : Nat} {e : TypeId} {s : Nat} {v : Value} {n : Nat} {xs : List Value} (h : w.ownsRow B e s v n xs) (hg : w.grownBy u (some R)) (hR : R < B) : u.ownsRow B e s v n xs := by
  refine ⟨h.1, ?_⟩
  rcases h.2 with q | ⟨g, cap, cur, rfl, q2, q3, q4⟩
  · exact .inl q
  · refine .inr ⟨g, cap, cur, rfl, q2, ?_, q4⟩
    rw [hg.block g (Array.getElem?_eq_some_iff.1 q3).1 (fun e => by cases e; omega)]
    exact q3
/-- the last text of a row of one's own can be written -/
theorem owns_last {w : World} {B : Nat} {v : Value} {l : List Mk} {m : Mk} (h : w.ownsRow B 103 2 v (l.length + 1) (mkcells (l ++ [m]))) : ∃ g cap, v = .slice (some ⟨g, 0, none⟩) (l.length + 1) cap ∧ B ≤ g ∧ g < w.heap.size ∧ w.cell? ⟨g, l.length * 2 + 1, none⟩ = some (.string ⟨m.tx.toArray⟩) ∧ w.frozen? ⟨g, l.length * 2 + 1, none⟩ = false ∧
    ∀ (u : World) (t : List UInt8), u.heap[g]? = w.heap[g]? → (u.setCell ⟨g, l.length * 2 + 1, none⟩ (.string ⟨t.toArray⟩)).ownsRow B 103 2 v (l.length + 1) (mkcells (l ++ [⟨m.sg, t⟩])) := by
  rcases h.2 with ⟨_, q⟩ | ⟨g, cap, cur, rfl, q2, q3, q4, q5, q6, q7⟩
  · omega
  · have hmk : ∀ x : Mk, mkcells (l ++ [x]) = mkcells l ++ [.int .u8 x.sg, .string ⟨x.tx.toArray⟩] := fun x => by rw [mkcells_append]; rfl
    have hl := mkcells_length l
    have hcur : cur.toList.take ((l.length + 1) * 2) = mkcells l ++ [.int .u8 m.sg, .string ⟨m.tx.toArray⟩] := by rw [q7, hmk]
    have hcell : cur[l.length * 2 + 1]? = some (.string ⟨m.tx.toArray⟩) := by
      have h1 : (cur.toList.take ((l.length + 1) * 2))[l.length * 2 + 1]? = some (.string ⟨m.tx.toArray⟩) := by
        rw [hcur, List.getElem?_append_right (by omega), hl]
        have : l.length * 2 + 1 - l.length * 2 = 1 := by omega
        rw [this]
        rfl
      rw [List.getElem?_take_of_lt (by omega)] at h1
      simpa using h1
    refine ⟨g, cap, rfl, q2, (Array.getElem?_eq_some_iff.1 q3).1, ?_, Lib.frozen_of_heap q3 _, ?_⟩
    · rw [Lib.cell_of_heap q3]
      exact hcell
    · intro u t hu
      have hs := heap_setCell_same u g (l.length * 2 + 1) cur _ (.string ⟨t.toArray⟩) (hu.trans q3)
      refine ⟨by rw [mkcells_length]; simp, .inr ⟨g, cap, _, rfl, q2, hs, q4, q5, by simpa using q6, ?_⟩⟩
      rw [hmk]
      have e1 : (cur.setIfInBounds (l.length * 2 + 1) (.string ⟨t.toArray⟩)).toList = cur.toList.set (l.length * 2 + 1) (.string ⟨t.toArray⟩) := by simp
      rw [e1, List.take_set, hcur, List.set_append_right _ _ (by omega), hl]
      have : l.length * 2 + 1 - l.length * 2 = 1 := by omega
      rw [this]
      rfl
theorem pre_feed {sg s : List UInt8} (h : ∀ c ∈ sg, c ≠ 10) : Lib.hasPrefix (s ++ [10]) sg = sg.isPrefixOf s := by
  unfold Lib.hasPrefix
  rw [Bool.eq_iff_iff, List.isPrefixOf_iff_prefix, List.isPrefixOf_iff_prefix]
  constructor
  · intro hp
    have hp2 := List.prefix_iff_eq_take.1 hp
    by_cases hl : sg.length ≤ s.length
    · rw [List.take_append_of_le_length hl] at hp2
      exact List.prefix_iff_eq_take.2 hp2
    · exfalso
      have h3 : (s ++ [10]).take sg.length = s ++ [10] := List.take_of_length_le (by simp; omega)
      rw [h3] at hp2
      exact h 10 (by rw [hp2]; simp) rfl
  · rintro ⟨t, rfl⟩
    exact ⟨t ++ [10], by simp⟩
theorem trim_feed {sg s : List UInt8} (h : ∀ c ∈ sg, c ≠ 10) (hp : sg.isPrefixOf s = true) : Lib.trimPrefix (s ++ [10]) sg = s.drop sg.length ++ [10] := by
  unfold Lib.trimPrefix
  rw [pre_feed h, if_pos hp, List.drop_append_of_le_length]
  exact (List.isPrefixOf_iff_prefix.1 hp).length_le
/-- what a side leaves behind -/
def SdQ (B R : Nat) (vL : Value) (m0 : List Mk) (X : Except (Nat × Int) (List Mk × Nat × List (List UInt8))) (w : World) (x : Ending) (w' : World) : Prop :=
  match X with
  | .error (a, e) => Thr (a : Int) e x w' ∧ Fr B R w w'
  | .ok (l, p1, _) => ∃ v', x = .returned v' ∧ w'.ownsRow B 103 2 v' (m0 ++ l).length (mkcells (m0 ++ l)) ∧ Ry w' R vL (p1 : Int) ∧ Fr B R w w'
def thenL (m : List Mk) (X : Except (Nat × Int) (List Mk × Nat × List (List UInt8))) : Except (Nat × Int) (List Mk × Nat × List (List UInt8)) :=
  match X with
  | .error e => .error e
  | .ok (l, p1, r) => .ok (m ++ l, p1, r)
theorem thenL_nil (X : Except (Nat × Int) (List Mk × Nat × List (List UInt8))) : thenL [] X = X := by
  unfold thenL
  rcases X with e | ⟨l, p, r⟩ <;> rfl
theorem rdL_succ {sg : List UInt8} {S : Int} {n p : Nat} {ls r : List (List UInt8)} {s : List UInt8} (h : nxt p ls = .ok (s, r)) (m : List Mk) : thenL m (rdL sg S (n + 1) p ls) = if sg.isPrefixOf s = true then thenL (m ++ [⟨S, s.drop sg.length ++ [10]⟩]) (rdL sg S n (p + 1) r) else .error (p + 1, 3) := by
  simp only [rdL]
  rw [h]
  dsimp only
  split
  · cases rdL sg S n (p + 1) r with
    | error e => rfl
    | ok z => simp [thenL]
  · rfl
theorem nxt_rest {p : Nat} {L r : List (List UInt8)} {s : List UInt8} (h : nxt p (L.drop p) = .ok (s, r)) : r = L.drop (p + 1) ∧ p < L.length ∧ ∃ hp : p < L.length, L[p] = s ++ [10] := by
  have h1 := nxt_ok h
  have hp : p < L.length := by
    by_cases h2 : p < L.length
    · exact h2
    · rw [List.drop_eq_nil_of_le (by omega)] at h1
      cases h1
  have h3 := List.drop_eq_getElem_cons hp
  rw [h3] at h1
  injection h1 with h4 h5
  exact ⟨h5.symm, hp, hp, h4⟩
end Go.Proofs.YtgiojkhmkeocfaaGreatDoor

/- The plain Parse of the reference, walked anew over the normal form's texts. -/
set_option maxRecDepth 20000
namespace Go.Proofs.YtgiojkhmkeocfaaGreatDoor
open Pn Go.RowKit
attribute [local go_sem] no_at

theorem ret_pair {k k' : IntKind} {a b a' b' : Int} (h : a = a') (h' : b = b') : Ending.returned (.tuple #[.int k a, .int k' b]) = .returned (.tuple #[.int k a', .int k' b']) := by rw [h, h']
set_option maxHeartbeats 2000000 in
theorem rParse_loop (L : List UInt8) (w : World) (hl : L.length ≤ maxLen) (h0 : 0 < L.length) (hz : ((L.length : Int) ≤ 1) ∨ ((1 < (L.length : Int)) ∧ (((L[0].toNat : Int) == 48) = false)))
    (HY : Hid ((∀ k (hk : k < L.length), 48 ≤ L[k].toNat ∧ L[k].toNat ≤ 57) → isNum L = true)) :
    Calls Tryz.prog 159 #[.string ⟨L.toArray⟩] w fun e w' => e = .returned (.tuple #[.int .i64 (parseV L), .int .i64 (parseE L)]) ∧ Below w.heap.size w w' := by
  unfold maxLen at hl
  have hne : ((L.length : Int) == 0) = false := beq_eq_false_iff_ne.2 (by omega)
  rcases hz with hz | ⟨hz, hz1⟩
  all_goals
    go_enter Tryz.func159, Tryz.ntmps159
    go_wp2
    go_loop [4, 5] (fun n i => ∃ (pos : Nat) (v : Int), pos ≤ L.length ∧ i = .int .i64 pos ∧ n = .int .i64 v ∧ 0 ≤ v ∧ v ≤ 2147483648 ∧ sat v (L.drop pos) = sat 0 L ∧ (∀ k (hk : k < L.length), k < pos → 48 ≤ L[k].toNat ∧ L[k].toNat ≤ 57)) (fun _ i => L.length - (intOf i).toNat)
    case atStart => exact ⟨0, 0, Nat.zero_le _, rfl, rfl, by omega, by omega, rfl, fun k _ h => by omega⟩
    case round =>
      obtain ⟨pos, v, hp, rfl, rfl, hv0, hv1, hsat, hall⟩ := hrel
      have HA : Hid (∀ k (hk : k < L.length), k < pos → 48 ≤ L[k].toNat ∧ L[k].toNat ≤ 57) := hall
      have HS : Hid (sat v (L.drop pos) = sat 0 L) := hsat
      clear hall hsat
      by_cases hlt : pos < L.length
      · have hc := L[pos].toNat_lt
        by_cases hd : 48 ≤ L[pos].toNat ∧ L[pos].toNat ≤ 57
        · obtain ⟨hd1, hd2⟩ := hd
          have HS2 : Hid (sat (min (v * 10 + ((L[pos].toNat : Int) - 48)) 2147483648) (L.drop (pos + 1)) = sat 0 L) := by
            show sat _ _ = _
            rw [← sat_step hlt]; exact HS.out
          have HA2 : Hid (∀ k (hk : k < L.length), k < pos + 1 → 48 ≤ L[k].toNat ∧ L[k].toNat ≤ 57) := by
            intro k hk h
            by_cases e : k = pos
            · subst e; exact ⟨hd1, hd2⟩
            · exact HA.out k hk (by omega)
          go_wp2
          have e : (if 2147483648 < v * 10 + ((L[pos].toNat : Int) - 48) then 2147483648 else v * 10 + ((L[pos].toNat : Int) - 48)) = min (v * 10 + ((L[pos].toNat : Int) - 48)) 2147483648 := by split <;> omega
          try rw [e]
          exact ⟨⟨pos + 1, _, by omega, by go_num, rfl, by omega, by omega, HS2.out, HA2.out⟩, by simp [intOf]; omega⟩
        · have HN : Hid (isNum L = false) := isNum_bad pos hlt hd
          by_cases hd1 : L[pos].toNat < 48
          · clear hd
            go_wp2
            go_ret2
            have h := parse_no HN.out
            exact ⟨ret_pair h.1 h.2, Below.refl _ _⟩
          · have hd2 : 57 < L[pos].toNat := by omega
            clear hd
            go_wp2
            go_ret2
            have h := parse_no HN.out
            exact ⟨ret_pair h.1 h.2, Below.refl _ _⟩
      · have HN : Hid (isNum L = true) := HY.out fun k hk => HA.out k hk (by omega)
        have HF : Hid (sat 0 L = v) := by
          have h := HS.out
          rw [List.drop_eq_nil_of_le (by omega)] at h
          exact h.symm
        by_cases hfar : 2147483647 < v
        · go_wp2
          go_ret2
          have h := parse_far HN.out (by rw [HF.out]; omega)
          exact ⟨ret_pair h.1 h.2, Below.refl _ _⟩
        · go_wp2
          go_ret2
          have h := parse_ok HN.out HF.out (by omega)
          exact ⟨ret_pair h.1 h.2, Below.refl _ _⟩

set_option maxHeartbeats 1000000 in
theorem rParse_f (l : List UInt8) (w : World) (hl : l.length ≤ maxLen) :
    Calls Tryz.prog 159 #[.string ⟨l.toArray⟩] w fun e w' => e = .returned (.tuple #[.int .i64 (parseV l), .int .i64 (parseE l)]) ∧ Below w.heap.size w w' := by
  match l, hl with
  | [], _ =>
    go_enter Tryz.func159, Tryz.ntmps159
    go_wp2
    go_ret2
    exact ⟨rfl, Below.refl _ _⟩
  | [c], hl => exact rParse_loop [c] w hl (by simp) (.inl (by simp)) (isNum_yes (by simp))
  | c :: d :: t, hl =>
    by_cases h : c.toNat = 48
    · have hb : ((c.toNat : Int) == 48) = true := by simp; omega
      have HN : Hid (isNum (c :: d :: t) = false) := isNum_zero h
      have hl2 : (1 : Int) < (t.length : Int) + 1 + 1 := by omega
      have hl3 : (((t.length : Int) + 1 + 1) == 0) = false := beq_eq_false_iff_ne.2 (by omega)
      clear h
      go_enter Tryz.func159, Tryz.ntmps159
      go_wp2
      go_ret2
      have h := parse_no HN.out
      exact ⟨ret_pair h.1 h.2, Below.refl _ _⟩
    · refine rParse_loop (c :: d :: t) w hl (by simp) (.inr ⟨by simp; omega, ?_⟩) (isNum_yes (by simp [h]))
      simp; omega
end Go.Proofs.YtgiojkhmkeocfaaGreatDoor

/- The code's isNumber and Parse of layer 1, walked anew over the normal form's texts: what they return is what the plain functions isNum, parseV and parseE say. -/
set_option maxRecDepth 20000
namespace Go.Proofs.YtgiojkhmkeocfaaGreatDoor
open Pn Go.RowKit
attribute [local go_sem] no_at

set_option maxHeartbeats 2000000 in
theorem nisNumber_loop (L : List UInt8) (w : World) (hl : L.length ≤ maxLen) (h0 : 0 < L.length) (hz : (((L[0].toNat : Int) == 48) = false) ∨ ((((L[0].toNat : Int) == 48) = true) ∧ (L.length : Int) ≤ 1))
    (HY : Hid ((∀ k (hk : k < L.length), 48 ≤ L[k].toNat ∧ L[k].toNat ≤ 57) → isNum L = true)) :
    Calls Tryz.prog 275 #[.string ⟨L.toArray⟩] w fun e w' => e = .returned (.bool (isNum L)) ∧ Below w.heap.size w w' := by
  unfold maxLen at hl
  have hne : L.isEmpty = false := by cases L; simp at h0; rfl
  have hnil : ¬ L = [] := by intro h; rw [h] at h0; simp at h0
  rcases hz with hz | ⟨hz, hz1⟩
  all_goals
    go_enter Tryz.func275, Tryz.ntmps275
    go_wp2
    go_loopw [] (fun wr => ∃ pos : Nat, pos ≤ L.length ∧ wr.heap[w.heap.size]? = some (.stringIter ⟨L.toArray⟩ pos) ∧ Below w.heap.size w wr ∧ (∀ k (hk : k < L.length), k < pos → 48 ≤ L[k].toNat ∧ L[k].toNat ≤ 57)) (fun wr => L.length - wr.iterPos w.heap.size)
    case atStart =>
      refine ⟨0, Nat.zero_le _, World.iter_heap w _ 0, (Below.refl _ w).alloc (Nat.le_refl _) _, fun k _ h => by omega⟩
    case round =>
      obtain ⟨pos, hp, hit, hbr, hall⟩ := hrel
      have HA : Hid (∀ k (hk : k < L.length), k < pos → 48 ≤ L[k].toNat ∧ L[k].toNat ≤ 57) := hall
      clear hall
      have hss : (⟨L.toArray⟩ : ByteArray).size = L.length := rfl
      by_cases hlt : pos < L.length
      · by_cases ha : L[pos].toNat < 128
        · have hnx : ∀ ty, (Instr.next (.pointer (some ⟨w.heap.size, 0, none⟩)) true ty).run Tryz.prog wr = _ := fun ty => Lib.run_next_ascii_at wr w.heap.size ⟨L.toArray⟩ pos ty hit hlt ha
          have hit2 := Lib.iterAt_heap wr w.heap.size ⟨L.toArray⟩ pos (pos + 1) hit
          have hbr2 := Lib.below_iterAt hbr (k := w.heap.size) (Nat.le_refl _) ⟨L.toArray⟩ (pos + 1)
          by_cases hd : 48 ≤ L[pos].toNat ∧ L[pos].toNat ≤ 57
          · obtain ⟨hd1, hd2⟩ := hd
            go_wp2
            go_roundw
            case rel =>
              refine ⟨pos + 1, by omega, hit2, hbr2, fun k hk h => ?_⟩
              by_cases e : k = pos
              · subst e; exact ⟨hd1, hd2⟩
              · exact HA.out k hk (by omega)
            case measure => simp only [World.iterPos, hit, hit2]; omega
          · have HN : Hid (isNum L = false) := isNum_bad pos hlt hd
            by_cases hd1 : L[pos].toNat < 48
            · clear hd
              go_wp2
              go_ret
              exact ⟨ret_bool HN.out.symm, hbr2⟩
            · have hd2 : 57 < L[pos].toNat := by omega
              clear hd
              go_wp2
              go_ret
              exact ⟨ret_bool HN.out.symm, hbr2⟩
        · have HN : Hid (isNum L = false) := isNum_bad pos hlt (by omega)
          have hdh := (decode_high ⟨L.toArray⟩ pos hlt (by show 128 ≤ L[pos].toNat; omega)).1
          have hnx : ∀ ty, (Instr.next (.pointer (some ⟨w.heap.size, 0, none⟩)) true ty).run Tryz.prog wr = _ := fun ty => Lib.run_next_any_at wr w.heap.size ⟨L.toArray⟩ pos ty hit hlt
          have hbr2 := Lib.below_iterAt hbr (k := w.heap.size) (Nat.le_refl _) ⟨L.toArray⟩ (pos + (Utf8.decode ⟨L.toArray⟩ pos).2)
          have hdl := decode_le ⟨L.toArray⟩ pos
          generalize Utf8.decode ⟨L.toArray⟩ pos = dd at *
          have q1 : ¬ ((dd.1 : Int) < 48) := by omega
          have q2 : 57 < (dd.1 : Int) := by omega
          go_wp2
          go_ret
          exact ⟨ret_bool HN.out.symm, hbr2⟩
      · have hnx : ∀ ty, (Instr.next (.pointer (some ⟨w.heap.size, 0, none⟩)) true ty).run Tryz.prog wr = _ := fun ty => Lib.run_next_end_at wr w.heap.size ⟨L.toArray⟩ pos ty hit hlt
        have HN : Hid (isNum L = true) := HY.out fun k hk => HA.out k hk (by omega)
        go_wp2
        go_ret
        exact ⟨ret_bool HN.out.symm, hbr⟩

set_option maxHeartbeats 1000000 in
theorem nisNumber_any (l : List UInt8) (w : World) (hl : l.length ≤ maxLen) :
    Calls Tryz.prog 275 #[.string ⟨l.toArray⟩] w fun e w' => e = .returned (.bool (isNum l)) ∧ Below w.heap.size w w' := by
  match l, hl with
  | [], _ =>
    go_enter Tryz.func275, Tryz.ntmps275
    go_wp2
    go_ret
    exact ⟨rfl, Below.refl _ _⟩
  | [c], hl =>
    refine nisNumber_loop [c] w hl (by simp) ?_ (isNum_yes (by simp))
    cases h : ((([c] : List UInt8)[0].toNat : Int) == 48)
    · exact .inl rfl
    · exact .inr ⟨rfl, by simp⟩
  | c :: d :: t, hl =>
    by_cases h : c.toNat = 48
    · have hb : ((c.toNat : Int) == 48) = true := by simp; omega
      have HN : Hid (isNum (c :: d :: t) = false) := isNum_zero h
      have hl2 : (1 : Int) < (t.length : Int) + 1 + 1 := by omega
      clear h
      go_enter Tryz.func275, Tryz.ntmps275
      go_wp2
      go_ret
      exact ⟨ret_bool HN.out.symm, Below.refl _ _⟩
    · refine nisNumber_loop (c :: d :: t) w hl (by simp) (.inl ?_) (isNum_yes (by simp [h]))
      simp; omega

set_option maxHeartbeats 2000000 in
theorem nParse_any (l : List UInt8) (w : World) (hl : l.length ≤ maxLen) :
    Calls Tryz.prog 245 #[.string ⟨l.toArray⟩] w fun e w' => e = .returned (.tuple #[.int .i64 (parseV l), .int .i64 (parseE l)]) ∧ Below w.heap.size w w' := by
  go_enter Tryz.func245, Tryz.ntmps245
  go_wp2_with fail
  refine (nisNumber_any l _ hl).mono ?_
  rintro e w1 ⟨rfl, hb1⟩
  unfold maxLen at hl
  cases hn : isNum l
  · have HN : Hid (isNum l = false) := hn
    go_wp2
    go_ret2
    have h := parse_no HN.out
    exact ⟨ret_pair h.1 h.2, hb1⟩
  · have HN : Hid (isNum l = true) := hn
    have hal := isNum_all hn
    have HAL : Hid (l.all digB = true) := hal
    clear hal
    go_wp2
    go_loopw [4] (fun n wr => ∃ (pos : Nat) (v : Int), pos ≤ l.length ∧ n = .int .i64 v ∧ 0 ≤ v ∧ v ≤ 2147483647 ∧ wr.heap[w1.heap.size]? = some (.stringIter ⟨l.toArray⟩ pos) ∧ Below w.heap.size w wr ∧ sat v (l.drop pos) = sat 0 l) (fun _ wr => l.length - wr.iterPos w1.heap.size)
    case atStart =>
      refine ⟨0, 0, Nat.zero_le _, rfl, by omega, by omega, World.iter_heap w1 _ 0, hb1.alloc hb1.size _, rfl⟩
    case round =>
      obtain ⟨pos, v, hp, rfl, hv0, hv1, hit, hbr, hsat⟩ := hrel
      have HS : Hid (sat v (l.drop pos) = sat 0 l) := hsat
      clear hsat
      have hss : (⟨l.toArray⟩ : ByteArray).size = l.length := rfl
      have hz1 := hb1.size
      by_cases hlt : pos < l.length
      · have hd := all_at HAL.out pos hlt
        obtain ⟨hd1, hd2⟩ := hd
        have HS2 : Hid (sat (min (v * 10 + ((l[pos].toNat : Int) - 48)) 2147483648) (l.drop (pos + 1)) = sat 0 l) := by
          show sat _ _ = _
          rw [← sat_step hlt]; exact HS.out
        have hnx : ∀ ty, (Instr.next (.pointer (some ⟨w1.heap.size, 0, none⟩)) true ty).run Tryz.prog wr = _ := fun ty => Lib.run_next_ascii_at wr w1.heap.size ⟨l.toArray⟩ pos ty hit hlt (by show l[pos].toNat < 128; omega)
        have hit2 := Lib.iterAt_heap wr w1.heap.size ⟨l.toArray⟩ pos (pos + 1) hit
        have hbr2 := Lib.below_iterAt hbr (k := w1.heap.size) hb1.size ⟨l.toArray⟩ (pos + 1)
        by_cases hfar : (2147483647 - ((l[pos].toNat : Int) - 48)) / 10 < v
        · have HF : Hid (sat 0 l = 2147483648) := by
            have e : min (v * 10 + ((l[pos].toNat : Int) - 48)) 2147483648 = 2147483648 := by omega
            have h := HS2.out
            rw [e, sat_top _ (all_drop HAL.out _)] at h
            exact h.symm
          go_wp2
          go_ret2
          have h := parse_far HN.out HF.out
          exact ⟨ret_pair h.1 h.2, hbr2⟩
        · go_wp2
          go_roundw
          case rel =>
            refine ⟨pos + 1, v * 10 + ((l[pos].toNat : Int) - 48), by omega, rfl, by omega, by omega, hit2, hbr2, ?_⟩
            have e : min (v * 10 + ((l[pos].toNat : Int) - 48)) 2147483648 = v * 10 + ((l[pos].toNat : Int) - 48) := by omega
            rw [← HS2.out, e]
          case measure => simp only [World.iterPos, hit, hit2]; omega
      · have hnx : ∀ ty, (Instr.next (.pointer (some ⟨w1.heap.size, 0, none⟩)) true ty).run Tryz.prog wr = _ := fun ty => Lib.run_next_end_at wr w1.heap.size ⟨l.toArray⟩ pos ty hit hlt
        have HF : Hid (sat 0 l = v) := by
          have h := HS.out
          rw [List.drop_eq_nil_of_le (by omega)] at h
          exact h.symm
        go_wp2
        go_ret2
        have h := parse_ok HN.out HF.out hv1
        exact ⟨ret_pair h.1 h.2, hbr⟩
end Go.Proofs.YtgiojkhmkeocfaaGreatDoor

/- strings.IndexAny at the letters a, c, d, and strings.Cut at a comma, for every text. -/
set_option maxRecDepth 20000
namespace Go.Proofs.YtgiojkhmkeocfaaGreatDoor
open Go.RowKit
attribute [local go_sem] no_at ByteArray.extract_mk

theorem ret_int1 {k : IntKind} {a b : Int} (h : a = b) : Ending.returned (.int k a) = .returned (.int k b) := by rw [h]
theorem get_bang (s : ByteArray) (k : Nat) (h : k < s.size) : s.get! k = s[k] := by
  simp [ByteArray.get!, getElem!_pos, h]
  rfl

/-- every byte of a letter that begins with a byte from 128 on is such a byte, and lies in the text -/
theorem decode_rest (s : ByteArray) (pos : Nat) (h : pos < s.size) (ha : 128 ≤ (s[pos]'h).toNat) (k : Nat) (hk : k < (Utf8.decode s pos).2) : ∃ hq : pos + k < s.size, 128 ≤ (s[pos + k]'hq).toNat := by
  by_cases hk0 : k = 0
  · subst hk0; exact ⟨h, ha⟩
  have hn : ¬ (s.get! (pos + 0)).toNat < 128 := by rw [Nat.add_zero, get_bang s pos h]; omega
  have key : ∀ j, (decide (pos + j < s.size) && (s.get! (pos + j)).toNat / 64 == 2) = true → ∃ hq : pos + j < s.size, 128 ≤ (s[pos + j]'hq).toNat := by
    intro j hj
    simp only [Bool.and_eq_true, decide_eq_true_eq, beq_iff_eq] at hj
    refine ⟨hj.1, ?_⟩
    rw [← get_bang s (pos + j) hj.1]
    omega
  revert hk
  unfold Utf8.decode
  simp only [hn, if_false]
  split
  · rename_i h2
    simp only [Bool.and_eq_true] at h2
    split
    · intro hk
      have : k = 1 := by simp at hk; omega
      subst this
      exact key 1 (by simp only [Bool.and_eq_true]; exact h2.2)
    · intro hk; simp at hk; omega
  · split
    · rename_i h2
      simp only [Bool.and_eq_true] at h2
      split
      · intro hk
        have : k = 1 ∨ k = 2 := by simp at hk; omega
        rcases this with rfl | rfl
        · exact key 1 (by simp only [Bool.and_eq_true]; exact h2.1.2)
        · exact key 2 (by simp only [Bool.and_eq_true]; exact h2.2)
      · intro hk; simp at hk; omega
    · split
      · rename_i h2
        simp only [Bool.and_eq_true] at h2
        split
        · intro hk
          have : k = 1 ∨ k = 2 ∨ k = 3 := by simp at hk; omega
          rcases this with rfl | rfl | rfl
          · exact key 1 (by simp only [Bool.and_eq_true]; exact h2.1.1.2)
          · exact key 2 (by simp only [Bool.and_eq_true]; exact h2.1.2)
          · exact key 3 (by simp only [Bool.and_eq_true]; exact h2.2)
        · intro hk; simp at hk; omega
      · intro hk; simp at hk; omega

theorem enc_form (r : Int) (hv : Utf8.valid r = true) (h128 : 128 ≤ r) : (∃ a b : UInt8, 128 ≤ b.toNat ∧ Utf8.encode r = ⟨([a, b] : List UInt8).toArray⟩) ∨ (∃ a b c : UInt8, 128 ≤ c.toNat ∧ Utf8.encode r = ⟨([a, b, c] : List UInt8).toArray⟩) ∨ (∃ a b c d : UInt8, Utf8.encode r = ⟨([a, b, c, d] : List UInt8).toArray⟩) := by
  have hc : ¬ r.toNat < 128 := by omega
  unfold Utf8.encode
  simp only [hv, if_true, hc, if_false]
  split
  · refine .inl ⟨_, _, ?_, rfl⟩
    simp; omega
  · split
    · refine .inr (.inl ⟨_, _, _, ?_, rfl⟩)
      simp; omega
    · exact .inr (.inr ⟨_, _, _, _, rfl⟩)

theorem valid_of (r : Int) (h : Lib.validRune r = true) : Utf8.valid r = true := by
  simp [Lib.validRune, Utf8.valid] at h ⊢
  omega

theorem idx_nil (x : Int) (u : World) : Calls Tryz.prog 272 #[.string ⟨#[]⟩, .int .u8 x] u fun e w' => e = .returned (.int .i64 (-1)) ∧ w' = u := Tryz.strings_IndexByte ⟨#[]⟩ x u
theorem idx_d (b : UInt8) (hb : 128 ≤ b.toNat) (u : World) : Calls Tryz.prog 272 #[.string ⟨#[100]⟩, .int .u8 (b.toNat : Int)] u fun e w' => e = .returned (.int .i64 (-1)) ∧ w' = u := by
  refine (Tryz.strings_IndexByte ⟨#[100]⟩ (b.toNat : Int) u).mono ?_
  rintro e w' ⟨rfl, rfl⟩
  have e1 : ((b.toNat : Int).toNat).toUInt8 = b := by simp
  have e2 : Lib.indexByte [100] b = -1 := by
    have : ((100 : UInt8) == b) = false := by
      rw [beq_eq_false_iff_ne]
      rintro rfl
      simp at hb
    simp [Lib.indexByte, this]
  rw [e1]
  exact ⟨by rw [show Lib.indexByte (⟨#[100]⟩ : ByteArray).data.toList b = -1 from e2], rfl⟩

set_option maxHeartbeats 2000000 in
set_option maxRecDepth 100000 in
theorem IndexRune_high (r : Int) (h0 : 128 ≤ r) (h1 : r ≤ 2147483647) (w : World) :
    Calls Tryz.prog 240 #[.string ⟨([97, 99, 100] : List UInt8).toArray⟩, .int .i32 r] w fun e w' => e = .returned (.int .i64 (-1)) ∧ Below w.heap.size w w' := by
  by_cases h2 : r = 65533
  · subst h2
    have hn0 : ∀ ty, (Instr.next (.pointer (some ⟨w.heap.size, 0, none⟩)) true ty).run Tryz.prog (w.iter ⟨([97, 99, 100] : List UInt8).toArray⟩ 0) = .ok (.tuple #[.bool true, .int .i64 0, .int .i32 97]) (w.iter ⟨([97, 99, 100] : List UInt8).toArray⟩ 1) := fun ty => run_next_ascii w ⟨([97, 99, 100] : List UInt8).toArray⟩ 0 ty (by decide) (by decide)
    have hn1 : ∀ ty, (Instr.next (.pointer (some ⟨w.heap.size, 0, none⟩)) true ty).run Tryz.prog (w.iter ⟨([97, 99, 100] : List UInt8).toArray⟩ 1) = .ok (.tuple #[.bool true, .int .i64 1, .int .i32 99]) (w.iter ⟨([97, 99, 100] : List UInt8).toArray⟩ 2) := fun ty => run_next_ascii w ⟨([97, 99, 100] : List UInt8).toArray⟩ 1 ty (by decide) (by decide)
    have hn2 : ∀ ty, (Instr.next (.pointer (some ⟨w.heap.size, 0, none⟩)) true ty).run Tryz.prog (w.iter ⟨([97, 99, 100] : List UInt8).toArray⟩ 2) = .ok (.tuple #[.bool true, .int .i64 2, .int .i32 100]) (w.iter ⟨([97, 99, 100] : List UInt8).toArray⟩ 3) := fun ty => run_next_ascii w ⟨([97, 99, 100] : List UInt8).toArray⟩ 2 ty (by decide) (by decide)
    have hn3 : ∀ ty, (Instr.next (.pointer (some ⟨w.heap.size, 0, none⟩)) true ty).run Tryz.prog (w.iter ⟨([97, 99, 100] : List UInt8).toArray⟩ 3) = .ok (.tuple #[.bool false]) (w.iter ⟨([97, 99, 100] : List UInt8).toArray⟩ 3) := fun ty => run_next_end w ⟨([97, 99, 100] : List UInt8).toArray⟩ 3 ty (by decide)
    go_enter Tryz.func240, Tryz.ntmps240
    go_wp2
    refine wp_loop_rounds 4 ?_
    rw [rounds_succ]
    go_wp2
    rw [rounds_succ]
    go_wp2
    rw [rounds_succ]
    go_wp2
    rw [rounds_succ]
    go_wp2
    go_ret
    exact ⟨rfl, (Below.refl _ w).alloc (Nat.le_refl _) _⟩
  · have hb : (r == 65533) = false := by simp [h2]
    go_enter Tryz.func240, Tryz.ntmps240
    go_wp2_with fail
    refine (Tryz.utf8_ValidRune r _).mono ?_
    rintro e w' ⟨rfl, rfl⟩
    cases hv : Lib.validRune r
    · go_wp2
      go_ret
      exact ⟨rfl, Below.refl _ _⟩
    · rcases enc_form r (valid_of r hv) h0 with ⟨a, b, hb128, he⟩ | ⟨a, b, c, hb128, he⟩ | ⟨a, b, c, d, he⟩
      · have hbl := b.toNat_lt
        have hw2 : IntKind.i64.wrap 2 = 2 := by decide
        have hsl : ∀ u : World, (Instr.slice 9 (.string ⟨([97, 99, 100] : List UInt8).toArray⟩) (some (.int .i64 2)) none none).run Tryz.prog u = .ok (.string ⟨([100] : List UInt8).toArray⟩) u := fun u => by kernel_rfl
        have hne : ((99 : Int) != (b.toNat : Int)) = true := by simp; omega
        go_wp2_with fail
        go_step3
        go_wp2_with fail
        refine wp_loop_rounds 1 ?_
        rw [rounds_succ]
        go_wp2_with fail
        go_step3
        go_wp2_with fail
        go_quiet (fail)
        have hbq : Below w'.heap.size w' (w'.drewN nq) := Below.dN (Below.refl _ _) nq
        generalize w'.drewN nq = wq at *
        go_wp2_with fail
        go_quiet ((go_at_call 272; exact Calls.quiet_of_same (idx_d b hb128 _)))
        go_wp2
        rw [Exit.noGoto_ret]
        go_wp2
        rw [Exit.noGoto_ret]
        go_ret
        exact ⟨rfl, Below.dN hbq _⟩
      · have hbl := c.toNat_lt
        have hw2 : IntKind.i64.wrap 3 = 3 := by decide
        have hsl : ∀ u : World, (Instr.slice 9 (.string ⟨([97, 99, 100] : List UInt8).toArray⟩) (some (.int .i64 3)) none none).run Tryz.prog u = .ok (.string ⟨([] : List UInt8).toArray⟩) u := fun u => by kernel_rfl
        have hne : ((100 : Int) != (c.toNat : Int)) = true := by simp; omega
        go_wp2_with fail
        go_step3
        go_wp2_with fail
        refine wp_loop_rounds 1 ?_
        rw [rounds_succ]
        go_wp2_with fail
        go_step3
        go_wp2_with fail
        go_quiet (fail)
        have hbq : Below w'.heap.size w' (w'.drewN nq) := Below.dN (Below.refl _ _) nq
        generalize w'.drewN nq = wq at *
        go_wp2_with fail
        go_quiet ((go_at_call 272; exact Calls.quiet_of_same (idx_nil _ _)))
        go_wp2
        rw [Exit.noGoto_ret]
        go_wp2
        rw [Exit.noGoto_ret]
        go_ret
        exact ⟨rfl, Below.dN hbq _⟩
      · go_wp2_with fail
        go_step3
        go_wp2_with fail
        refine wp_loop_rounds 1 ?_
        rw [rounds_succ]
        go_wp2
        rw [Exit.noGoto_ret]
        go_ret
        exact ⟨rfl, Below.refl _ _⟩

theorem zero_set : ∀ w, (zeroValue 297).run Tryz.prog w = .ok (.agg (Array.replicate 256 (.bool false))) w :=
  (zero_of_info (P := Tryz.prog) (show (Tryz.prog.info? 297).map (fun i => (i.zero, i.size)) = some (some (.agg (Array.replicate 256 (.bool false))), 256) by kernel_rfl)).1

theorem idx_three (x : UInt8) : Lib.indexByte [97, 99, 100] x = if x.toNat = 97 then 0 else if x.toNat = 99 then 1 else if x.toNat = 100 then 2 else -1 := by
  have key : ∀ i : Fin 256, Lib.indexByte [97, 99, 100] (UInt8.ofNat i.val) = if i.val = 97 then 0 else if i.val = 99 then 1 else if i.val = 100 then 2 else -1 := by decide +kernel
  have := key ⟨x.toNat, x.toNat_lt⟩
  simpa using this
theorem isC_nat (x : UInt8) : isC x = decide (x.toNat = 97 ∨ x.toNat = 99 ∨ x.toNat = 100) := by
  rw [Bool.eq_iff_iff]
  simp [isC, ← UInt8.toNat_inj, or_assoc]

def idxB (x : UInt8) : Int := Lib.indexByte [97, 99, 100] x
theorem idxB_yes {x : UInt8} (h : isC x = true) : 0 ≤ idxB x := by
  rw [isC_nat] at h
  have h := of_decide_eq_true h
  unfold idxB; rw [idx_three]; split <;> (try split) <;> (try split) <;> omega
theorem idxB_no {x : UInt8} (h : isC x = false) : idxB x < 0 := by
  rw [isC_nat] at h
  have h := of_decide_eq_false h
  unfold idxB; rw [idx_three]; split <;> (try split) <;> (try split) <;> omega
theorem contains_three (c : UInt8) : ([97, 99, 100] : List UInt8).contains c = isC c := by
  rw [Bool.eq_iff_iff]
  simp [isC, or_assoc]
/-- where the first of the three letters is, or -1 -/
def wend (l : List UInt8) : Int := Lib.indexAny l [97, 99, 100]
theorem wend_at : ∀ (l : List UInt8) (k : Nat) (hk : k < l.length), (∀ j (h : j < l.length), j < k → isC l[j] = false) → isC l[k] = true → wend l = k
  | b :: l, 0, _, _, h => by
    unfold wend Lib.indexAny
    rw [contains_three, if_pos (by simpa using h)]
    rfl
  | b :: l, k + 1, hk, ha, h => by
    have h0 := ha 0 (by simp) (by omega)
    have ih := wend_at l k (by simpa using hk) (fun j hj hjk => ha (j + 1) (by simp; omega) (by omega)) (by simpa using h)
    unfold wend at ih ⊢
    unfold Lib.indexAny
    rw [contains_three, if_neg (by simpa using h0), ih]
    rw [if_neg (by simp)]
    omega

theorem wend_none : ∀ (l : List UInt8), (∀ j (h : j < l.length), isC l[j] = false) → wend l = -1
  | [], _ => rfl
  | b :: l, ha => by
    have h0 := ha 0 (by simp)
    have ih := wend_none l (fun j hj => ha (j + 1) (by simp; omega))
    unfold wend at ih ⊢
    unfold Lib.indexAny
    rw [contains_three, if_neg (by simpa using h0), ih]
    rfl

theorem IndexRune_low (x : UInt8) (h : x.toNat < 128) (w : World) :
    Calls Tryz.prog 240 #[.string ⟨([97, 99, 100] : List UInt8).toArray⟩, .int .i32 (x.toNat : Int)] w fun e w' => e = .returned (.int .i64 (idxB x)) ∧ w' = w := by
  have h1 := Tryz.strings_IndexRune_ascii ⟨([97, 99, 100] : List UInt8).toArray⟩ (x.toNat : Int) w (by omega) (by omega)
  refine h1.mono ?_
  rintro e w' ⟨rfl, rfl⟩
  have e : ((x.toNat : Int).toNat).toUInt8 = x := by simp
  rw [e]
  exact ⟨rfl, rfl⟩

set_option maxHeartbeats 2000000 in
theorem shouldUse_short (n : Int) (h : n ≤ 8) (w : World) : Calls Tryz.prog 241 #[.int .i64 n] w fun e w' => e = .returned (.bool false) ∧ w = w' := by
  go_enter Tryz.func241, Tryz.ntmps241
  go_wp2
  go_ret
  exact ⟨by simp; omega, rfl⟩

set_option maxHeartbeats 4000000 in
set_option maxRecDepth 100000 in
theorem IndexAny_short (l : List UInt8) (h8 : l.length ≤ 8) (w : World) :
    Calls Tryz.prog 198 #[.string ⟨l.toArray⟩, .string ⟨([97, 99, 100] : List UInt8).toArray⟩] w fun e w' => e = .returned (.int .i64 (wend l)) ∧ Below w.heap.size w w' := by
  go_enter Tryz.func198, Tryz.ntmps198
  go_wp2_with fail
  refine (shouldUse_short _ (by omega) _).mono ?_
  rintro e w' ⟨rfl, rfl⟩
  go_wp2
  go_loopw [] (fun wr => ∃ pos : Nat, pos ≤ l.length ∧ wr.heap[w.heap.size]? = some (.stringIter ⟨l.toArray⟩ pos) ∧ Below w.heap.size w wr ∧ (∀ k (hk : k < l.length), k < pos → isC l[k] = false)) (fun wr => l.length - wr.iterPos w.heap.size)
  case atStart => exact ⟨0, Nat.zero_le _, World.iter_heap w _ 0, (Below.refl _ w).alloc (Nat.le_refl _) _, fun k _ h => by omega⟩
  case round =>
    obtain ⟨pos, hp, hit, hbr, hall⟩ := hrel
    have HA : Hid (∀ k (hk : k < l.length), k < pos → isC l[k] = false) := hall
    clear hall
    have hwl : w.heap.size < wr.heap.size := (Array.getElem?_eq_some_iff.1 hit).1
    by_cases hlt : pos < l.length
    · by_cases ha : l[pos].toNat < 128
      · have hnx : ∀ ty, (Instr.next (.pointer (some ⟨w.heap.size, 0, none⟩)) true ty).run Tryz.prog wr = _ := fun ty => Lib.run_next_ascii_at wr w.heap.size ⟨l.toArray⟩ pos ty hit hlt ha
        have hit2 := Lib.iterAt_heap wr w.heap.size ⟨l.toArray⟩ pos (pos + 1) hit
        have hbr2 := Lib.below_iterAt hbr (k := w.heap.size) (Nat.le_refl _) ⟨l.toArray⟩ (pos + 1)
        go_wp2_with fail
        refine (IndexRune_low l[pos] ha _).mono ?_
        rintro e w4 ⟨rfl, rfl⟩
        cases hbl : isC l[pos]
        · have hneg := idxB_no hbl
          go_wp2
          go_roundw
          case rel =>
            refine ⟨pos + 1, by omega, hit2, hbr2, fun k hk h => ?_⟩
            by_cases e : k = pos
            · subst e; exact hbl
            · exact HA.out k hk (by omega)
          case measure => simp only [World.iterPos, hit, hit2]; omega
        · have hpos := idxB_yes hbl
          have HE : Hid ((pos : Int) = wend l) := (wend_at l pos hlt HA.out hbl).symm
          go_wp2
          go_ret
          exact ⟨ret_int1 HE.out, hbr2⟩
      · have hdh := (decode_high ⟨l.toArray⟩ pos hlt (by show 128 ≤ l[pos].toNat; omega))
        have hdr := decode_rest ⟨l.toArray⟩ pos hlt (by show 128 ≤ l[pos].toNat; omega)
        have hnx : ∀ ty, (Instr.next (.pointer (some ⟨w.heap.size, 0, none⟩)) true ty).run Tryz.prog wr = _ := fun ty => Lib.run_next_any_at wr w.heap.size ⟨l.toArray⟩ pos ty hit hlt
        have hit2 := Lib.iterAt_heap wr w.heap.size ⟨l.toArray⟩ pos (pos + (Utf8.decode ⟨l.toArray⟩ pos).2) hit
        have hbr2 := Lib.below_iterAt hbr (k := w.heap.size) (Nat.le_refl _) ⟨l.toArray⟩ (pos + (Utf8.decode ⟨l.toArray⟩ pos).2)
        have hdl := decode_le ⟨l.toArray⟩ pos
        have HR : Hid (∀ k, k < (Utf8.decode ⟨l.toArray⟩ pos).2 → ∃ h' : pos + k < l.length, 128 ≤ l[pos + k].toNat) := fun k hk => hdr k hk
        clear hdr
        obtain ⟨hd1, hd2⟩ := hdh
        generalize Utf8.decode ⟨l.toArray⟩ pos = dd at *
        have hwz : w.heap.size < (wr.iterAt w.heap.size ⟨l.toArray⟩ (pos + dd.2)).heap.size := by rw [Lib.iterAt_size]; exact hwl
        go_wp2_with fail
        refine (IndexRune_high (dd.1 : Int) (by omega) (by omega) _).mono ?_
        rintro e w4 ⟨rfl, hb4⟩
        have hit4 := (hb4.block w.heap.size hwz).trans hit2
        have hbr4 := hbr2.trans (hb4.mono (Nat.le_of_lt hwz))
        go_wp2
        go_roundw
        case rel =>
          refine ⟨pos + dd.2, ?_, hit4, hbr4, fun k hk h => ?_⟩
          · obtain ⟨h', _⟩ := HR.out (dd.2 - 1) (by omega)
            omega
          · by_cases e : k < pos
            · exact HA.out k hk e
            · obtain ⟨h', hh⟩ := HR.out (k - pos) (by omega)
              have ee : pos + (k - pos) = k := by omega
              simp only [ee] at hh
              exact (by rw [isC_nat]; exact decide_eq_false (by omega))
        case measure => simp only [World.iterPos, hit, hit4]; omega
    · have hnx : ∀ ty, (Instr.next (.pointer (some ⟨w.heap.size, 0, none⟩)) true ty).run Tryz.prog wr = _ := fun ty => Lib.run_next_end_at wr w.heap.size ⟨l.toArray⟩ pos ty hit hlt
      have HE : Hid (-1 = wend l) := (wend_none l (fun k hk => HA.out k hk (by omega))).symm
      go_wp2
      go_ret
      exact ⟨ret_int1 HE.out, hbr⟩

theorem IndexAny_any (l : List UInt8) (hl : l.length < 4294967281) (w : World) :
    Calls Tryz.prog 198 #[.string ⟨l.toArray⟩, .string ⟨([97, 99, 100] : List UInt8).toArray⟩] w fun e w' => e = .returned (.int .i64 (wend l)) ∧ Below w.heap.size w w' := by
  by_cases h8 : l.length ≤ 8
  · exact IndexAny_short l h8 w
  · have h := Tryz.strings_IndexAny_long zero_set ⟨l.toArray⟩ ⟨([97, 99, 100] : List UInt8).toArray⟩ w (by decide) (by show 8 < l.length; omega) hl (by decide) (fun j b h => by match j, h with | 0, h => simp at h; subst h; decide | 1, h => simp at h; subst h; decide | 2, h => simp at h; subst h; decide | j + 3, h => simp at h)
    refine h.mono ?_
    rintro e w' ⟨rfl, rfl⟩
    exact ⟨rfl, ((Below.refl _ w).alloc (Nat.le_refl _) _).alloc (by simp) _⟩

/-- where the first letter is, as the plain reader says -/
theorem wend_sp (l : List UInt8) : (spB isC l = none ∧ wend l = -1) ∨ (∃ k : Nat, ∃ h : k < l.length, wend l = k ∧ spB isC l = some (l.take k, l[k], l.drop (k + 1)) ∧ isC l[k] = true) := by
  induction l with
  | nil => exact .inl ⟨rfl, rfl⟩
  | cons c l ih =>
    unfold wend Lib.indexAny
    rw [contains_three]
    simp only [spB]
    cases hc : isC c with
    | true =>
      right
      refine ⟨0, by simp, by simp, by simp, by simpa using hc⟩
    | false =>
      rw [if_neg (by decide), if_neg (by decide)]
      rcases ih with ⟨h1, h2⟩ | ⟨k, hk, h1, h2, h3⟩
      · left
        unfold wend at h2
        rw [h1, h2]
        exact ⟨rfl, rfl⟩
      · right
        unfold wend at h1
        refine ⟨k + 1, by simpa using hk, ?_, ?_, by simpa using h3⟩
        · rw [h1, if_neg (by simp)]
          omega
        · rw [h2]
          rfl
/-- where a comma is -/
theorem comma_sp (l : List UInt8) : (spB isK l = none ∧ Lib.indexByte l 44 = -1) ∨ (∃ k : Nat, ∃ h : k < l.length, Lib.indexByte l 44 = k ∧ spB isK l = some (l.take k, l[k], l.drop (k + 1))) := by
  induction l with
  | nil => exact .inl ⟨rfl, rfl⟩
  | cons c l ih =>
    unfold Lib.indexByte
    simp only [spB]
    have e : (c == 44) = isK c := rfl
    rw [e]
    cases hc : isK c with
    | true =>
      right
      exact ⟨0, by simp, by simp, by simp⟩
    | false =>
      rw [if_neg (by decide), if_neg (by decide)]
      rcases ih with ⟨h1, h2⟩ | ⟨k, hk, h1, h2⟩
      · left
        rw [h1, h2]
        exact ⟨rfl, rfl⟩
      · right
        refine ⟨k + 1, by simpa using hk, ?_, ?_⟩
        · rw [h1, if_neg (by simp)]
          omega
        · rw [h2]
          rfl
end Go.Proofs.YtgiojkhmkeocfaaGreatDoor

/- The code's numbers and change of layer 12, walked: a range of lines, a line that says a change. -/
set_option maxRecDepth 20000
namespace Go.Proofs.YtgiojkhmkeocfaaGreatDoor
open Go.RowKit
attribute [local go_sem] ByteArray.extract_mk no_at

/-- what is ahead of the first comma, and behind it -/
def kA (l : List UInt8) : List UInt8 := match spB isK l with | none => l | some (x, _, _) => x
def kB (l : List UInt8) : List UInt8 := match spB isK l with | none => [] | some (_, _, y) => y
def kS (l : List UInt8) : Bool := match spB isK l with | none => false | some _ => true
set_option maxHeartbeats 2000000 in
theorem slCut_f (l : List UInt8) (w : World) (hl : l.length ≤ 1099511627776) :
    Calls Tryz.prog 274 #[.string ⟨l.toArray⟩, .string ⟨#[44]⟩] w fun e w' => e = .returned (.tuple #[.string ⟨(kA l).toArray⟩, .string ⟨(kB l).toArray⟩, .bool (kS l)]) ∧ ∃ n, w' = w.drewN n := by
  rcases comma_sp l with ⟨h1, h2⟩ | ⟨k, hk, h1, h2⟩
  · have HA : Hid (kA l = l ∧ kB l = [] ∧ kS l = false) := (by unfold kA kB kS; rw [h1]; exact ⟨rfl, rfl, rfl⟩)
    have HI : Hid (Lib.indexByte l 44 = -1) := h2
    clear h1 h2
    go_enter Tryz.func274, Tryz.ntmps274
    go_wp2_with fail
    refine (Tryz.stringslite_Index_one ⟨l.toArray⟩ 44 w).mono ?_
    rintro e w1 ⟨rfl, rfl⟩
    have e1 : Lib.indexByte (⟨l.toArray⟩ : ByteArray).data.toList 44 = -1 := HI.out
    rw [e1]
    clear e1
    go_wp2
    go_ret3
    obtain ⟨a1, a2, a3⟩ := HA.out
    rw [a1, a2, a3]
    exact ⟨rfl, 0, rfl⟩
  · have HA : Hid (kA l = l.take k ∧ kB l = l.drop (k + 1) ∧ kS l = true) := (by unfold kA kB kS; rw [h2]; exact ⟨rfl, rfl, rfl⟩)
    have HI : Hid (Lib.indexByte l 44 = (k : Int)) := h1
    clear h1 h2
    go_enter Tryz.func274, Tryz.ntmps274
    go_wp2_with fail
    refine (Tryz.stringslite_Index_one ⟨l.toArray⟩ 44 w).mono ?_
    rintro e w1 ⟨rfl, rfl⟩
    have e1 : Lib.indexByte (⟨l.toArray⟩ : ByteArray).data.toList 44 = (k : Int) := HI.out
    rw [e1]
    clear e1
    have i1 : (0 : Int) ≤ (k : Int) := by omega
    have i2 : (k : Int) ≤ (l.length : Int) := by omega
    have i3 : (k : Int) + 1 ≤ (l.length : Int) := by omega
    have i4 : (0 : Int) ≤ (k : Int) + 1 := by omega
    have i5 : IntKind.i64.wrap ((k : Int) + 1) = (k : Int) + 1 := wrap_s (by omega) (by omega)
    have i6 : ((k : Int) + 1).toNat = k + 1 := by omega
    go_wp2_with fail
    go_quiet (fail)
    go_wp2
    go_ret3
    obtain ⟨a1, a2, a3⟩ := HA.out
    rw [a1, a2, a3]
    have k5 : (l.drop (k + 1)).take (l.length - (k + 1)) = l.drop (k + 1) := List.take_of_length_le (by simp)
    exact ⟨by simp [k5], _, rfl⟩
set_option maxHeartbeats 1000000 in
theorem nCut_f (l : List UInt8) (w : World) (hl : l.length ≤ 1099511627776) :
    Calls Tryz.prog 244 #[.string ⟨l.toArray⟩, .string ⟨#[44]⟩] w fun e w' => e = .returned (.tuple #[.string ⟨(kA l).toArray⟩, .string ⟨(kB l).toArray⟩, .bool (kS l)]) ∧ ∃ n, w' = w.drewN n := by
  go_enter Tryz.func244, Tryz.ntmps244
  go_wp2_with fail
  refine (slCut_f l w hl).mono ?_
  rintro e w1 ⟨rfl, n, rfl⟩
  go_wp2
  go_ret3
  exact ⟨rfl, n, rfl⟩
/-- a text with a comma is no number -/
theorem comma_no {s : List UInt8} (h : kS s = true) : Pn.parseE s ≠ 0 := by
  unfold kS at h
  rcases comma_sp s with ⟨h1, _⟩ | ⟨k, hk, _, h2⟩
  · rw [h1] at h
    cases h
  · have hc : isK s[k] = true := (by
      have : ∀ (l : List UInt8) {a b : List UInt8} {c : UInt8}, spB isK l = some (a, c, b) → isK c = true := (by
        intro l
        induction l with
        | nil => intro a b c h; cases h
        | cons x l ih =>
          intro a b c h
          simp only [spB] at h
          split at h
          · rename_i hx
            cases h
            exact hx
          · split at h
            · cases h
            · rename_i hq
              cases h
              exact ih hq)
      exact this s h2)
    have hn : Pn.isNum s = false := Pn.isNum_bad k hk (by
      unfold isK at hc
      have : s[k] = 44 := by simpa using hc
      rw [this]
      decide)
    have := (Pn.parse_no hn).2
    omega
/-- a range, or the line ahead -/
def nmP (no : Bool) (s : List UInt8) : Option (Int × Int) := if no = true then oneP s else lnsP s
theorem kA_self {s : List UInt8} (h : kS s = false) : kA s = s ∧ spB isK s = none := by
  unfold kS at h
  unfold kA
  cases hq : spB isK s with
  | none => exact ⟨rfl, rfl⟩
  | some q => rw [hq] at h; cases h
theorem kS_some {s : List UInt8} (h : kS s = true) : ∃ c, spB isK s = some (kA s, c, kB s) := by
  unfold kS at h
  unfold kA kB
  cases hq : spB isK s with
  | none => rw [hq] at h; cases h
  | some q => exact ⟨q.2.1, rfl⟩
theorem nm_bad {no : Bool} {s : List UInt8} (h : Pn.parseE (kA s) ≠ 0) : nmP no s = none := by
  unfold nmP
  cases hk : kS s with
  | true =>
    obtain ⟨c, hc⟩ := kS_some hk
    have h2 := comma_no hk
    cases no with
    | true =>
      unfold oneP
      rw [if_pos rfl, if_neg h2]
    | false =>
      unfold lnsP
      rw [if_neg (by decide), hc]
      exact if_neg (fun q => h q.1)
  | false =>
    obtain ⟨h1, h2⟩ := kA_self hk
    rw [h1] at h
    cases no with
    | true =>
      unfold oneP
      rw [if_pos rfl, if_neg h]
    | false =>
      unfold lnsP
      rw [if_neg (by decide), h2]
      exact if_neg (fun q => h q.1)
theorem kA_le (s : List UInt8) : (kA s).length ≤ s.length ∧ (kB s).length ≤ s.length := by
  unfold kA kB
  rcases comma_sp s with ⟨h1, _⟩ | ⟨k, hk, _, h2⟩
  · rw [h1]; simp
  · rw [h2]; simp only [List.length_take, List.length_drop]; omega
/-- what numbers answers -/
def NmQ (w : World) (no : Bool) (s : List UInt8) (e : Ending) (w' : World) : Prop := ∃ x n r, e = .returned (.tuple #[.int .i64 x, .int .i64 n, .bool r]) ∧ nmP no s = (if r = true then some (x, n) else none) ∧ Below w.heap.size w w'
set_option maxHeartbeats 4000000 in
theorem nnumbers_f (s : List UInt8) (no : Bool) (w : World) (hl : s.length ≤ 1099511627776) :
    Calls Tryz.prog 199 #[.string ⟨s.toArray⟩, .bool no] w fun e w' => NmQ w no s e w' := by
  have hkl := kA_le s
  have b1 := @prs_num (kA s)
  have b2 := @prs_num (kB s)
  obtain ⟨V1, hV1⟩ : ∃ V, Pn.parseV (kA s) = V := ⟨_, rfl⟩
  obtain ⟨E1, hE1⟩ : ∃ V, Pn.parseE (kA s) = V := ⟨_, rfl⟩
  obtain ⟨V2, hV2⟩ : ∃ V, Pn.parseV (kB s) = V := ⟨_, rfl⟩
  obtain ⟨E2, hE2⟩ : ∃ V, Pn.parseE (kB s) = V := ⟨_, rfl⟩
  have P1 : ∀ u : World, Calls Tryz.prog 245 #[.string ⟨(kA s).toArray⟩] u fun e w' => e = .returned (.tuple #[.int .i64 V1, .int .i64 E1]) ∧ Below u.heap.size u w' := (by
    intro u
    have h := nParse_any (kA s) u (by unfold maxLen; omega)
    rw [hV1, hE1] at h
    exact h)
  have P2 : ∀ u : World, Calls Tryz.prog 245 #[.string ⟨(kB s).toArray⟩] u fun e w' => e = .returned (.tuple #[.int .i64 V2, .int .i64 E2]) ∧ Below u.heap.size u w' := (by
    intro u
    have h := nParse_any (kB s) u (by unfold maxLen; omega)
    rw [hV2, hE2] at h
    exact h)
  rw [hV1] at b1
  rw [hV2] at b2
  by_cases he1 : E1 = 0
  · have f1 : (E1 != 0) = false := by simp [he1]
    cases no with
    | true =>
      cases hk : kS s with
      | true =>
        have HN : Hid (nmP true s = none) := (by
          show _ = _
          unfold nmP oneP
          rw [if_pos rfl, if_neg (comma_no hk)])
        have C1 := nCut_f s w hl
        rw [hk] at C1
        clear hV1 hE1 hV2 hE2 hk he1 P2
        go_enter Tryz.func199, Tryz.ntmps199
        go_wp2_with fail
        refine C1.mono ?_
        rintro e w1 ⟨rfl, n, rfl⟩
        go_wp2_with fail
        refine (P1 _).mono ?_
        rintro e w2 ⟨rfl, hb2⟩
        go_wp2
        go_ret3
        exact ⟨_, _, _, rfl, HN.out, (Below.dN (Below.refl _ w) n).trans hb2⟩
      | false =>
        have HN : Hid (nmP true s = some (V1, 0)) := (by
          show _ = _
          obtain ⟨a1, _⟩ := kA_self hk
          rw [a1] at hV1 hE1
          unfold nmP oneP
          rw [if_pos rfl, if_pos (by rw [hE1]; exact he1), hV1])
        have C1 := nCut_f s w hl
        rw [hk] at C1
        clear hV1 hE1 hV2 hE2 hk he1 P2
        go_enter Tryz.func199, Tryz.ntmps199
        go_wp2_with fail
        refine C1.mono ?_
        rintro e w1 ⟨rfl, n, rfl⟩
        go_wp2_with fail
        refine (P1 _).mono ?_
        rintro e w2 ⟨rfl, hb2⟩
        go_wp2
        go_ret3
        exact ⟨_, _, _, rfl, HN.out, (Below.dN (Below.refl _ w) n).trans hb2⟩
    | false =>
      cases hk : kS s with
      | false =>
        have HN : Hid (nmP false s = if decide (0 < V1) = true then some (V1, 1) else none) := (by
          show _ = _
          obtain ⟨a1, a2⟩ := kA_self hk
          rw [a1] at hV1 hE1
          unfold nmP lnsP
          rw [if_neg (by decide), a2]
          dsimp only
          rw [hV1, hE1]
          by_cases h : 0 < V1
          · rw [if_pos ⟨he1, by omega⟩, if_pos (by simpa using h)]
          · rw [if_neg (by omega), if_neg (by simpa using h)])
        have C1 := nCut_f s w hl
        rw [hk] at C1
        clear hV1 hE1 hV2 hE2 hk he1 P2
        go_enter Tryz.func199, Tryz.ntmps199
        go_wp2_with fail
        refine C1.mono ?_
        rintro e w1 ⟨rfl, n, rfl⟩
        go_wp2_with fail
        refine (P1 _).mono ?_
        rintro e w2 ⟨rfl, hb2⟩
        go_wp2
        go_ret3
        exact ⟨_, _, _, rfl, HN.out, (Below.dN (Below.refl _ w) n).trans hb2⟩
      | true =>
        have HN : Hid (nmP false s = if (decide (E2 = 0) && decide (0 < V1) && decide (V1 < V2)) = true then some (V1, V2 - V1 + 1) else none) := (by
          show _ = _
          obtain ⟨c, a2⟩ := kS_some hk
          unfold nmP lnsP
          rw [if_neg (by decide), a2]
          dsimp only
          rw [hV1, hE1, hV2, hE2]
          by_cases h : E2 = 0 ∧ 0 < V1 ∧ V1 < V2
          · rw [if_pos ⟨he1, h.1, by omega, h.2.2⟩, if_pos (by simp [h.1, h.2.1, h.2.2])]
          · rw [if_neg (fun q => h ⟨q.2.1, by omega, q.2.2.2⟩), if_neg (fun q => h (by simp only [Bool.and_eq_true, decide_eq_true_eq] at q; exact ⟨q.1.1, q.1.2, q.2⟩))])
        have C1 := nCut_f s w hl
        rw [hk] at C1
        clear hV1 hE1 hV2 hE2 hk he1
        go_enter Tryz.func199, Tryz.ntmps199
        go_wp2_with fail
        refine C1.mono ?_
        rintro e w1 ⟨rfl, n, rfl⟩
        go_wp2_with fail
        refine (P1 _).mono ?_
        rintro e w2 ⟨rfl, hb2⟩
        go_wp2_with fail
        refine (P2 _).mono ?_
        rintro e w3 ⟨rfl, hb3⟩
        have hb23 := (Below.dN (Below.refl _ w) n).trans (hb2.trans (hb3.mono hb2.size))
        have i1 : IntKind.i64.wrap (V2 - V1) = V2 - V1 := wrap_s (by omega) (by omega)
        have i2 : IntKind.i64.wrap (V2 - V1 + 1) = V2 - V1 + 1 := wrap_s (by omega) (by omega)
        by_cases h1 : E2 = 0
        · have g1 : (E2 == 0) = true := by simp [h1]
          by_cases h2 : 0 < V1
          · have HN2 : Hid (nmP false s = if decide (V1 < V2) = true then some (V1, V2 - V1 + 1) else none) := (by
              show _ = _
              rw [HN.out]
              simp [h1, h2])
            clear HN h1
            go_wp2
            go_ret3
            exact ⟨_, _, _, rfl, HN2.out, hb23⟩
          · have HN2 : Hid (nmP false s = none) := (by have h := HN.out; rw [if_neg (by simp [h2])] at h; exact h)
            clear HN h1
            go_wp2
            go_ret3
            exact ⟨_, _, _, rfl, HN2.out, hb23⟩
        · have g1 : (E2 == 0) = false := by simp [h1]
          have HN2 : Hid (nmP false s = none) := (by have h := HN.out; rw [if_neg (by simp [h1])] at h; exact h)
          clear HN h1
          go_wp2
          go_ret3
          exact ⟨_, _, _, rfl, HN2.out, hb23⟩
  · have f1 : (E1 != 0) = true := by simp [he1]
    have HN : Hid (nmP no s = none) := nm_bad (by rw [hE1]; exact he1)
    have C1 := nCut_f s w hl
    clear hV1 hE1 hV2 hE2 he1 P2
    generalize kS s = ks at C1
    go_enter Tryz.func199, Tryz.ntmps199
    go_wp2_with fail
    refine C1.mono ?_
    rintro e w1 ⟨rfl, n, rfl⟩
    go_wp2_with fail
    refine (P1 _).mono ?_
    rintro e w2 ⟨rfl, hb2⟩
    go_wp2
    go_ret3
    exact ⟨_, _, _, rfl, HN.out, (Below.dN (Below.refl _ w) n).trans hb2⟩
end Go.Proofs.YtgiojkhmkeocfaaGreatDoor
