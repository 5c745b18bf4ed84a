/-
  Texts that belong together, joined: HuC5.
-/
import Derived.Test.YtgiojkhmkeocfaaGreatDoorPartA5
import Derived.Test.YtgiojkhmkeocfaaGreatDoorPartB3

/- The code's Changes of layer 11: a row of changes in a box; the closure that answers the change to go on with, walked. -/
set_option maxRecDepth 20000
namespace Go.Proofs.YtgiojkhmkeocfaaGreatDoor
open Go.RowKit

/-- both places are as far behind the last change -/
def Afar (a b : Int) : List Ch → Prop
  | [] => True
  | c :: _ => a - (c.A + c.AN) = b - (c.B + c.BN)
theorem al_true {a b : Int} {c : Ch} {r : List Ch} (h : Afar a b (c :: r)) (hA : c.A + c.AN = a) : opn a b (c :: r) = c :: r := by
  simp only [Afar] at h
  unfold opn
  rw [if_pos (by simp only [endsAt, Bool.and_eq_true, decide_eq_true_eq]; omega)]
theorem al_false {a b : Int} {c : Ch} {r : List Ch} (hA : c.A + c.AN ≠ a) : opn a b (c :: r) = ⟨a, 0, b, 0⟩ :: c :: r := by
  unfold opn
  rw [if_neg (by simp only [endsAt, Bool.and_eq_true, decide_eq_true_eq]; omega)]
/-- a row of changes in a box of one's own -/
structure Sc (W : World) (ov : Value) (r : List Ch) (u : World) : Prop where
  low : Below W.heap.size W u
  box : u.heap[W.heap.size]? = some (.cells #[ov] 25)
  own : u.ownsRow (W.heap.size + 1) 64 4 ov r.length (bch r)
section
variable {W u u' : World} {ov ov' : Value} {r r' : List Ch}
theorem Sc.cell (h : Sc W ov r u) : u.cell? ⟨W.heap.size, 0, none⟩ = some ov := by rw [Lib.cell_of_heap h.box]; rfl
theorem Sc.frozen (h : Sc W ov r u) : u.frozen? ⟨W.heap.size, 0, none⟩ = false := Lib.frozen_of_heap h.box 0
theorem Sc.lt (h : Sc W ov r u) : W.heap.size < u.heap.size := (Array.getElem?_eq_some_iff.1 h.box).1
theorem Sc.alloc (h : Sc W ov r u) (o : Obj) : Sc W ov r (u.alloc o) := ⟨h.low.alloc h.low.size o, (((Below.refl _ u).alloc (Nat.le_refl _) o).block _ h.lt).trans h.box, h.own.alloc o⟩
theorem Sc.drewN (h : Sc W ov r u) (n : Nat) : Sc W ov r (u.drewN n) := ⟨Below.dN h.low n, h.box, h.own⟩
theorem Sc.keep (h : Sc W ov r u) (hk : Below u.heap.size u u') : Sc W ov r u' := ⟨h.low.trans (hk.mono h.low.size), (hk.block _ h.lt).trans h.box, owns_keep h.own hk⟩
theorem Sc.form (h : Sc W ov r u) : ∃ oo oc, ov = .slice oo r.length oc := (holds_of h.own).form
/-- a change more -/
theorem Sc.grow (h : Sc W ov r u) (hg : u.grownBy u' ov.ownBlock) (ho : u'.ownsRow (W.heap.size + 1) 64 4 ov' r'.length (bch r')) : (u'.cell? ⟨W.heap.size, 0, none⟩ = some ov ∧ u'.frozen? ⟨W.heap.size, 0, none⟩ = false) ∧ Sc W ov' r' (u'.setCell ⟨W.heap.size, 0, none⟩ ov') := by
  have hbx : u'.heap[W.heap.size]? = some (.cells #[ov] 25) := (hg.block _ h.lt (fun e => by have := owns_ge h.own e.symm; omega)).trans h.box
  have hs := grown_set u' W.heap.size 0 ov'
  have hlow : Below W.heap.size W u' := h.low.grown hg h.low.size (fun j hj => by have := owns_ge h.own hj; omega)
  refine ⟨⟨by rw [Lib.cell_of_heap hbx]; rfl, Lib.frozen_of_heap hbx 0⟩, hlow.grown hs hlow.size (fun j hj => by cases hj; exact Nat.le_refl _), heap_setCell_same u' _ 0 _ _ ov' hbx, own_kept ho hs ?_⟩
  intro k hk e
  cases hk
  have := owns_ge ho e
  omega
/-- a number of a change is written -/
theorem Sc.put (h : Sc W ov r u) {g j : Nat} {z : Value} (hb : ov.ownBlock = some g) (ho : (u.setCell ⟨g, j, none⟩ z).ownsRow (W.heap.size + 1) 64 4 ov r'.length (bch r')) (hg : u.grownBy (u.setCell ⟨g, j, none⟩ z) (some g)) : Sc W ov r' (u.setCell ⟨g, j, none⟩ z) := by
  have hge := owns_ge h.own hb
  exact ⟨h.low.grown hg h.low.size (fun j hj => by cases hj; omega), (hg.block _ h.lt (fun e => by cases e; omega)).trans h.box, ho⟩
end

set_option maxRecDepth 10000 in
set_option maxHeartbeats 4000000 in
theorem hAt_f (a b : Int) (W u : World) (ov : Value) (r t : List Ch) (c : Ch) (hS : Sc W ov r u) (_ha : -1 ≤ a ∧ a ≤ 4398046511104) (_hb : -1 ≤ b ∧ b ≤ 4398046511104) (hrl : r.length < 2199023255552) (HHD : Hid (Hhd r)) (HAL : Hid (Afar a b r)) (HOP : Hid (opn a b r = c :: t)) : Calls Tryz.prog 48 #[.int .i64 a, .int .i64 b, .pointer (some ⟨W.heap.size, 0, none⟩)] u fun e u' => ∃ g oc, e = .returned (.pointer (some ⟨g, t.length * 4, none⟩)) ∧ Sc W (.slice (some ⟨g, 0, none⟩) (t.length + 1) oc) (c :: t) u' := by
  obtain ⟨oo, oc, rfl⟩ := hS.form
  have hbx := hS.cell
  cases r with
  | nil =>
    have hop : opn a b [] = [⟨a, 0, b, 0⟩] := rfl
    have h2 := HOP.out
    rw [hop] at h2
    cases h2
    clear hop HOP HAL HHD
    simp only [List.length_nil] at hbx hS ⊢
    go_enter Tryz.func48, Tryz.ntmps48
    go_upto_region 2 with fail
    go_quiet (fail)
    have hS1 := hS.drewN nq
    have hbx1 := hS1.cell
    generalize u.drewN nq = u1 at *
    have hS2 := hS1.alloc (chO ⟨a, 0, b, 0⟩)
    have hlt := hS2.lt
    have hW2 : u1.alloc (Obj.cells #[.int .i64 a, .int .i64 0, .int .i64 b, .int .i64 0] 64) = u1.alloc (chO ⟨a, 0, b, 0⟩) := rfl
    clear hS hS1 hbx
    have hk1 : ([] : List Ch).length + 1 ≤ 2199023255552 := (by simp only [List.length_nil]; omega)
    go_wp2_with (at_builtin; refine wpList_append_w _ (by kernel_rfl) (.tmp 30) (.tmp 34) 25 64 (.agg #[.int .i64 0, .int .i64 0, .int .i64 0, .int .i64 0]) 4 32 rfl Tryz.underlying25 infoCh rfl (by decide) (by decide) (W.heap.size + 1) _ _ _ rfl hS2.own _ 1 (chcells [⟨a, 0, b, 0⟩]) rfl (ch_row u1 ⟨a, 0, b, 0⟩) rfl (chcells_one _) hk1 (by omega) ?_)
    intro v3 u3 hown3 hg3 _
    rw [show chcells [(⟨a, 0, b, 0⟩ : Ch)] = chC ⟨a, 0, b, 0⟩ by simp [chcells], ← bch_cons] at hown3
    obtain ⟨o3, c3, rfl⟩ := (holds_of hown3).form
    obtain ⟨⟨f1, f2⟩, hS3⟩ := hS2.grow (r' := ⟨a, 0, b, 0⟩ :: []) hg3 hown3
    obtain ⟨g, rfl⟩ := hown_at hown3
    have f3 := hS3.cell
    clear hown3 hg3 hS2
    go_wp2
    go_ret
    first | exact ⟨g, c3, rfl, hS3⟩ | exact ⟨g, rfl, c3, hS3⟩
  | cons c0 r0 =>
    have hown := hS.own
    rw [List.length_cons] at hown
    obtain ⟨g, rfl⟩ := hown_at hown
    obtain ⟨q0, q1, q2, q3⟩ := bch_at c0 r0
    have d0 := (hown.cellAt (r0.length * 4) (by omega)).trans q0
    have d1 := (hown.cellAt (r0.length * 4 + 1) (by omega)).trans q1
    have hd := HHD.out
    simp only [Hhd] at hd
    have w1 : IntKind.i64.wrap (c0.A + c0.AN) = c0.A + c0.AN := wrap_s (by omega) (by omega)
    obtain ⟨n0, hn0⟩ : ∃ n, r0.length = n := ⟨_, rfl⟩
    have HN0 : Hid (r0.length = n0) := hn0
    simp only [List.length_cons, hn0] at hbx hS d0 d1 hrl ⊢
    clear q0 q1 q2 q3 hown hn0 HHD
    have l0 : IntKind.i64.wrap ((n0 : Int) + 1 - 1) = (n0 : Int) := (by rw [show (n0 : Int) + 1 - 1 = n0 by omega]; exact wrap_s (by omega) (by omega))
    have l1 : decide ((0 : Int) ≤ (n0 : Int)) = true := decide_eq_true (by omega)
    have l2 : (0 : Int) ≤ (n0 : Int) := by omega
    have l3 : (n0 : Int) < (n0 : Int) + 1 := by omega
    by_cases hA : c0.A + c0.AN = a
    · have h2 := HOP.out
      rw [al_true HAL.out hA] at h2
      have eA : (c0.A + c0.AN == a) = true := by simpa using hA
      cases h2
      clear HOP HAL hA
      have hn0 := HN0.out
      subst hn0
      go_enter Tryz.func48, Tryz.ntmps48
      go_upto_region 2 with fail
      go_quiet (fail)
      have hS1 := hS.drewN nq
      have hbx1 := hS1.cell
      generalize u.drewN nq = u1 at *
      go_wp2
      go_ret
      first | exact ⟨g, oc, rfl, hS1⟩ | exact ⟨g, rfl, oc, hS1⟩
    · have h2 := HOP.out
      rw [al_false hA] at h2
      cases h2
      have eA : (c0.A + c0.AN == a) = false := by simpa using hA
      clear HOP HAL hA
      have hn0 := HN0.out
      subst hn0
      simp only [List.length_cons] at ⊢
      go_enter Tryz.func48, Tryz.ntmps48
      go_upto_region 2 with fail
      go_quiet (fail)
      have hS1 := hS.drewN nq
      have hbx1 := hS1.cell
      generalize u.drewN nq = u1 at *
      have hS2 := hS1.alloc (chO ⟨a, 0, b, 0⟩)
      have hlt := hS2.lt
      have hW2 : u1.alloc (Obj.cells #[.int .i64 a, .int .i64 0, .int .i64 b, .int .i64 0] 64) = u1.alloc (chO ⟨a, 0, b, 0⟩) := rfl
      clear hS hS1 hbx
      have hk1 : (c0 :: r0 : List Ch).length + 1 ≤ 2199023255552 := (by simp only [List.length_cons]; omega)
      go_wp2_with (at_builtin; refine wpList_append_w _ (by kernel_rfl) (.tmp 30) (.tmp 34) 25 64 (.agg #[.int .i64 0, .int .i64 0, .int .i64 0, .int .i64 0]) 4 32 rfl Tryz.underlying25 infoCh rfl (by decide) (by decide) (W.heap.size + 1) _ _ _ rfl hS2.own _ 1 (chcells [⟨a, 0, b, 0⟩]) rfl (ch_row u1 ⟨a, 0, b, 0⟩) rfl (chcells_one _) hk1 (by omega) ?_)
      intro v3 u3 hown3 hg3 _
      rw [show chcells [(⟨a, 0, b, 0⟩ : Ch)] = chC ⟨a, 0, b, 0⟩ by simp [chcells], ← bch_cons] at hown3
      obtain ⟨o3, c3, rfl⟩ := (holds_of hown3).form
      obtain ⟨⟨f1, f2⟩, hS3⟩ := hS2.grow (r' := ⟨a, 0, b, 0⟩ :: c0 :: r0) hg3 hown3
      obtain ⟨g, rfl⟩ := hown_at hown3
      have f3 := hS3.cell
      have j1 : (0 : Int) ≤ (r0.length : Int) + 1 := by omega
      have j2 : (r0.length : Int) + 1 < (r0.length : Int) + 1 + 1 := by omega
      clear hown3 hg3 hS2
      go_wp2
      go_ret
      first | exact ⟨g, c3, rfl, hS3⟩ | exact ⟨g, rfl, c3, hS3⟩
end Go.Proofs.YtgiojkhmkeocfaaGreatDoor
