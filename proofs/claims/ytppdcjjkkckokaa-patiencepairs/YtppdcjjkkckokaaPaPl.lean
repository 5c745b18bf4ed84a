/-
  Where each class of a text stands: places, walked.
-/
import Derived.Test.YtppdcjjkkckokaaPaUq
import Derived.Test.YtppdcjjkkckokaaEdOpen
import Derived.Maps.OwnSet
import Derived.Carry
namespace Go.Proofs.Ytppdcjjkkckokaa
open Go.RowKit Go.Maps

theorem tm_snoc (c a : Int) (t : List Int) : tm c (t ++ [a]) = tm c t + if a = c then 1 else 0 := by
  induction t with
  | nil => simp [tm]
  | cons b t ih => rw [List.cons_append, tm, tm, ih]; omega
theorem tm_zero {c : Int} {t : List Int} : tm c t = 0 ↔ c ∉ t := by
  induction t with
  | nil => simp [tm]
  | cons b t ih =>
    rw [tm, List.mem_cons]
    by_cases h : b = c
    · simp [h]
    · rw [if_neg h, Nat.zero_add, ih]
      constructor
      · rintro h1 (h2 | h2)
        · exact h h2.symm
        · exact h1 h2
      · exact fun h1 h2 => h1 (.inr h2)
theorem ps_none {c i j : Int} {t : List Int} (h : tm c t = 0) : ps c i j t = [] := List.eq_nil_of_length_eq_zero (by rw [ps_length, h])
theorem ps_one {c i j : Int} {t : List Int} (h : tm c t = 1) : ps c i j t = [⟨i, j + (t.idxOf c : Nat)⟩] := by
  induction t generalizing j with
  | nil => simp [tm] at h
  | cons b t ih =>
    rw [tm] at h
    rw [ps]
    by_cases e : b = c
    · rw [if_pos e] at h ⊢
      rw [ps_none (by omega), e, List.idxOf_cons_self]
      simp
    · rw [if_neg e] at h ⊢
      have eb : (b == c) = false := by simpa using e
      rw [ih (by omega), List.idxOf_cons, eb]
      simp
      omega
theorem tm_pos {x : List Int} {i : Nat} (hi : i < x.length) : 0 < tm x[i] x := by
  rcases Nat.eq_zero_or_pos (tm x[i] x) with h | h
  · exact absurd (List.getElem_mem hi) (tm_zero.1 h)
  · exact h
theorem tm_two {c : Int} {t : List Int} {i j : Nat} (hij : i < j) (hj : j < t.length) (h1 : t[i] = c) (h2 : t[j] = c) : 2 ≤ tm c t := by
  induction t generalizing i j with
  | nil => simp at hj
  | cons b t ih =>
    rw [tm]
    cases j with
    | zero => omega
    | succ j =>
      cases i with
      | zero =>
        have h3 : t[j]'(by simpa using hj) = c := by simpa using h2
        have := tm_pos (x := t) (i := j) (by simpa using hj)
        rw [h3] at this
        rw [if_pos (by simpa using h1)]
        omega
      | succ i =>
        have := ih (i := i) (j := j) (by omega) (by simpa using hj) (by simpa using h1) (by simpa using h2)
        omega
theorem idx_one {x : List Int} {i : Nat} (hi : i < x.length) (h : tm x[i] x = 1) : x.idxOf x[i] = i := by
  have hk : x.idxOf x[i] < x.length := List.idxOf_lt_length_of_mem (List.getElem_mem hi)
  have hv : x[x.idxOf x[i]] = x[i] := List.getElem_idxOf hk
  rcases Nat.lt_trichotomy (x.idxOf x[i]) i with q | q | q
  · have := tm_two q hi hv rfl
    omega
  · exact q
  · have := tm_two q hk rfl hv
    omega

/-- where a class stands: nowhere, at a place, at several -/
def pf (t : List Int) (c : Int) : Option Int := if tm c t = 0 then none else if tm c t = 1 then some (t.idxOf c : Nat) else some (-1)
theorem pf_snoc (t : List Int) (a c : Int) : pf (t ++ [a]) c = if a = c then some (if (pf t a).isSome then -1 else (t.length : Int)) else pf t c := by
  unfold pf
  rw [tm_snoc]
  by_cases e : a = c
  · subst e
    rw [if_pos rfl, if_pos rfl, if_neg (by omega)]
    by_cases h0 : tm a t = 0
    · rw [if_pos (by omega), if_pos h0, List.idxOf_append, if_neg (tm_zero.1 h0)]
      simp
    · rw [if_neg (by omega), if_neg h0]
      split <;> simp
  · rw [if_neg e, if_neg e, Nat.add_zero]
    by_cases h0 : tm c t = 0
    · rw [if_pos h0, if_pos h0]
    · have hm : c ∈ t := by
        by_cases q : c ∈ t
        · exact q
        · exact absurd (tm_zero.2 q) h0
      rw [if_neg h0, if_neg h0, List.idxOf_append, if_pos hm]
/-- a map that tells where each class stands -/
structure Plc {H : Type} (D : DataW H) (t : List Int) : Prop where
  tidy : Tidy D
  has : ∀ c, Maps.has D (.int .i64 c) = (pf t c).isSome
  at_ : ∀ c, D.atKey (.int .i64 c) (.lit (.int .i64 0)) = .lit (.int .i64 ((pf t c).getD 0))
theorem Plc.nil {H : Type} : Plc (H := H) (.map []) [] := ⟨tidy_empty, fun _ => rfl, fun _ => by rw [atKey_of_not_has rfl]; rfl⟩
theorem Plc.put {H : Type} {D : DataW H} {t : List Int} (h : Plc D t) (a : Int) : Plc (D.put (.int .i64 a) (.lit (.int .i64 (if (pf t a).isSome then -1 else (t.length : Int))))) (t ++ [a]) := by
  have hk : WideAt.IsKeyLit (.int .i64 a) := trivial
  have hne : ∀ {g : Int}, a ≠ g → (Lit.int .i64 g) ≠ .int .i64 a := fun hg e => hg (by cases e; rfl)
  refine ⟨h.tidy.put hk _, fun c => ?_, fun c => ?_⟩
  · rw [pf_snoc]
    by_cases e : a = c
    · subst e
      rw [has_put_same h.tidy.isMap hk, if_pos rfl]; rfl
    · rw [has_put_other (hne e), h.has, if_neg e]
  · rw [pf_snoc]
    by_cases e : a = c
    · subst e
      rw [atKey_put_same h.tidy.isMap hk, if_pos rfl]; rfl
    · rw [atKey_put_other (hne e), h.at_, if_neg e]
theorem intKeyed : Keyed Try.prog 3 := int_keyed Try.underlying3
theorem zeroI2 (w : World) : (zeroValue 3).run Try.prog w = .ok (.int .i64 0) w := by kernel_rfl
/-- such a map in memory -/
def Mo (t : List Int) (B : Nat) (w : World) : Prop := ∃ D : DataW Unit, w.ownsMap Try.prog 3 (plainElem Try.prog 3) B t.length D ∧ Plc D t
section
variable {t : List Int} {B : Nat} {w w' : World}
theorem Mo.lt (h : Mo t B w) : B < w.heap.size := by obtain ⟨D, hm, _⟩ := h; exact hm.lt
theorem Mo.keep (h : Mo t B w) (hb : w'.heap[B]? = w.heap[B]?) : Mo t B w' := by
  obtain ⟨D, ⟨es, clock, hm, r⟩, hd⟩ := h
  exact ⟨D, ⟨es, clock, hb.trans hm, r⟩, hd⟩
theorem key_int {c : Int} (hc : w64 c) : keyOf Try.prog 3 (.int .i64 c) = some (.int .i64 c) := keyOf_int_mk Try.underlying3 (WalkArith.wf_i64 hc)
theorem Mo.look (h : Mo t B w) {c : Int} (hc : w64 c) : (Instr.lookup 74 (.map (some B)) (.int .i64 c) true).run Try.prog w = .ok (.tuple #[.int .i64 ((pf t c).getD 0), .bool (pf t c).isSome]) w := by
  obtain ⟨D, hm, hd⟩ := h
  obtain ⟨v, ps, hr, hv⟩ := hm.look_ok intKeyed Try.underlying74 (zeroI2 w) (plainElem_int Try.underlying3 (by decide)) (key_int hc)
  obtain ⟨d, rfl, hc', _⟩ := plainElem_int_inv Try.underlying3 hv
  have e := congrArg Prod.fst hc'
  dsimp only at e
  rw [hd.at_] at e
  cases e
  rw [hr, hd.has]
theorem Mo.look1 (h : Mo t B w) {c : Int} (hc : w64 c) : (Instr.lookup 74 (.map (some B)) (.int .i64 c) false).run Try.prog w = .ok (.int .i64 ((pf t c).getD 0)) w := by
  obtain ⟨D, hm, hd⟩ := h
  obtain ⟨d, hr, e, _⟩ := hm.lookup_int intKeyed Try.underlying74 Try.underlying3 (zeroI2 w) (key_int hc)
  rw [hd.at_] at e
  cases e
  exact hr
theorem Mo.store (h : Mo t B w) {a : Int} (ha : w64 a) (hl : t.length ≤ 1099511627776) (z : Int) (hz : z = if (pf t a).isSome then -1 else (t.length : Int)) :
    ∃ w', (Instr.mapUpdate 74 (.map (some B)) (.int .i64 a) (.int .i64 z)).run Try.prog w = .ok () w' ∧ Mo (t ++ [a]) B w' ∧ w.grownBy w' (some B) := by
  obtain ⟨D, hm, hd⟩ := h
  obtain ⟨w', hr, ho, ht⟩ := hm.store (val := .int .i64 z) intKeyed Try.underlying74 (by unfold maxLen; omega) (key_int ha) (plainElem_int Try.underlying3 (WalkArith.wf_i64 (by subst hz; split <;> omega)))
  exact ⟨w', hr, ⟨_, by simpa using ho, by subst hz; exact hd.put a⟩, ht.grown⟩
end

set_option maxRecDepth 10000 in
set_option maxHeartbeats 1000000 in
theorem places_f (x : List Int) (v : Value) (w : World) (hx : HI w v x) (hxl : x.length ≤ 1048576) (hw : ∀ c ∈ x, w64 c) :
    Calls Try.prog 47 #[v] w fun e w' => ∃ B, e = .returned (.map (some B)) ∧ Mo x B w' ∧ w.heap.size ≤ B ∧ Below w.heap.size w w' := by
  obtain ⟨xo, xc, rfl⟩ := Holds.form hx
  have hmm := @run_makeMap Try.prog
  have HW : Hid (∀ c ∈ x, w64 c) := hw
  clear hw
  go_enter Try.func47, Try.ntmps47
  go_wp2
  go_loopw [11] (fun iv wr => ∃ (i : Nat), i ≤ x.length ∧ iv = .int .i64 i ∧ Mo (x.take i) w.heap.size wr ∧ Below w.heap.size w wr) (fun iv _ => x.length - (intOf iv).toNat)
  case atStart => exact ⟨0, Nat.zero_le _, rfl, ⟨.map [], World.ownsMap_made w _ _ _, Plc.nil⟩, (Below.refl _ w).alloc (Nat.le_refl _) _⟩
  case round =>
    clear hmm
    obtain ⟨i, hi, rfl, hM, hB⟩ := hrel
    have hs := hB.size
    by_cases hil : i < x.length
    · obtain ⟨b, off, rfl, _, hc⟩ := HI.at (HI.keep hx hB (Nat.le_refl _)) (by omega)
      have c0 := hc i hil
      obtain ⟨z, hz⟩ : ∃ z, x[i] = z := ⟨_, rfl⟩
      rw [hz] at c0
      have hzw : w64 z := by rw [← hz]; exact HW.out _ (List.getElem_mem hil)
      have htl : (x.take i).length = i := by simp; omega
      have HT : Hid (x.take (i + 1) = x.take i ++ [z]) := (by show _ = _; rw [List.take_succ_eq_append_getElem hil, hz])
      have hlk := hM.look hzw
      clear hc hz
      have i1 : 0 ≤ (i : Int) := by omega
      have i2 : (i : Int) < (x.length : Int) := by omega
      cases hp : pf (x.take i) z with
      | none =>
        obtain ⟨w2, hst, hM2, hg2⟩ := hM.store hzw (by omega) (i : Int) (by rw [hp, htl]; rfl)
        have hB2 : Below w.heap.size w w2 := hB.grown hg2 hs (fun j hj => by cases hj; exact Nat.le_refl _)
        rw [hp] at hlk
        simp only [Option.getD_none, Option.isSome_none] at hlk
        go_wp2
        go_roundw
        case rel => exact ⟨i + 1, by omega, by go_num, by rw [HT.out]; exact hM2, hB2⟩
        case measure => simp [intOf]; omega
      | some q =>
        obtain ⟨w2, hst, hM2, hg2⟩ := hM.store hzw (by omega) (-1) (by rw [hp]; rfl)
        have hB2 : Below w.heap.size w w2 := hB.grown hg2 hs (fun j hj => by cases hj; exact Nat.le_refl _)
        rw [hp] at hlk
        simp only [Option.getD_some, Option.isSome_some] at hlk
        go_wp2
        go_roundw
        case rel => exact ⟨i + 1, by omega, by go_num, by rw [HT.out]; exact hM2, hB2⟩
        case measure => simp [intOf]; omega
    · obtain rfl : i = x.length := by omega
      rw [List.take_length] at hM
      go_wp2
      go_ret
      exact ⟨_, rfl, hM, Nat.le_refl _, hB⟩
end Go.Proofs.Ytppdcjjkkckokaa
