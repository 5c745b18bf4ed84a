/-
  Heads of rows: upTo, behind, above of the code, walked.
-/
import Derived.Test.YtppdcjjkkckokaaPaRow
import Derived.Test.YtppdcjjkkckokaaPaSr
namespace Go.Proofs.Ytppdcjjkkckokaa
open Go.RowKit
attribute [local simp] low_drew

theorem cell_stay {u u' : World} (h : Below u.heap.size u u') {b o : Nat} {v : Value} (hb : b < u.heap.size) (hc : u.cell? ⟨b, o, none⟩ = some v) : u'.cell? ⟨b, o, none⟩ = some v := by
  rw [← hc]
  unfold World.cell?
  rw [h.block b hb]
/-- what X the i-th has -/
def px (h : List Pr) (i : Nat) : Int := (h[i]?.map (·.X)).getD 0
def py (h : List Pr) (i : Nat) : Int := (h[i]?.map (·.Y)).getD 0
theorem px_eq {h : List Pr} {i : Nat} (hi : i < h.length) : px h i = h[i].X := by simp [px, hi]
theorem py_eq {h : List Pr} {i : Nat} (hi : i < h.length) : py h i = h[i].Y := by simp [py, hi]

theorem upTo1_f (h : List Pr) (x : Int) (i B1 B2 : Nat) (hv : Value) (W u : World) (hL : Low W u) (hb1 : B1 < W.heap.size) (hb2 : B2 < W.heap.size) (c1 : W.cell? ⟨B1, 0, none⟩ = some hv) (c2 : W.cell? ⟨B2, 0, none⟩ = some (.int .i64 x)) (hh : HPr W hv h) (hi : i < h.length) :
    Calls Try.prog 79 #[.int .i64 (i : Int), .pointer (some ⟨B1, 0, none⟩), .pointer (some ⟨B2, 0, none⟩)] u fun e u' => e = .returned (.bool (decide (px h i ≤ x))) ∧ Low W u' := by
  obtain ⟨ho, hc, rfl⟩ := Holds.form hh
  obtain ⟨b, off, rfl, hbl, hcs⟩ := HPr.at hh (by omega)
  have d1 := cell_stay hL hb1 c1
  have d2 := cell_stay hL hb2 c2
  have d3 := cell_stay hL hbl (hcs i hi).1
  rw [px_eq hi]
  generalize h[i].X = X at *
  clear c1 c2 hcs
  have i1 : 0 ≤ (i : Int) := by omega
  have i2 : (i : Int) < (h.length : Int) := by omega
  go_enter Try.func79, Try.ntmps79
  go_wp2_with fail
  go_quiet (fail)
  go_wp2
  go_ret
  exact ⟨rfl, Below.dN hL _⟩

theorem with1_f (h : List Pr) (p : Pr) (i B1 B2 : Nat) (hv : Value) (W u : World) (hL : Low W u) (hb1 : B1 < W.heap.size) (hb2 : B2 < W.heap.size) (c1 : W.cell? ⟨B1, 0, none⟩ = some hv) (c2 : W.cell? ⟨B2, 1, none⟩ = some (.int .i64 p.Y)) (hh : HPr W hv h) (hi : i < h.length) :
    Calls Try.prog 75 #[.int .i64 (i : Int), .pointer (some ⟨B1, 0, none⟩), .pointer (some ⟨B2, 0, none⟩)] u fun e u' => e = .returned (.bool (decide (p.Y < py h i))) ∧ Low W u' := by
  obtain ⟨ho, hc, rfl⟩ := Holds.form hh
  obtain ⟨b, off, rfl, hbl, hcs⟩ := HPr.at hh (by omega)
  have d1 := cell_stay hL hb1 c1
  have d2 := cell_stay hL hb2 c2
  have d3 := cell_stay hL hbl (hcs i hi).2
  rw [py_eq hi]
  generalize h[i].Y = X at *
  clear c1 c2 hcs
  have i1 : 0 ≤ (i : Int) := by omega
  have i2 : (i : Int) < (h.length : Int) := by omega
  go_enter Try.func75, Try.ntmps75
  go_wp2_with fail
  go_quiet (fail)
  go_wp2
  go_ret
  exact ⟨rfl, Below.dN hL _⟩

theorem upTo_f (h : List Pr) (x : Int) (v : Value) (w : World) (hh : HPr w v h) (hl : h.length ≤ 1048576) (hs : Hid (Stair h)) (r : Nat) (hr : Hid (upto h x = r)) :
    Calls Try.prog 74 #[v, .int .i64 x] w fun e w' => e = .returned (.int .i64 (r : Int)) ∧ Below w.heap.size w w' := by
  obtain ⟨ho, hc, rfl⟩ := Holds.form hh
  have hrl : r ≤ h.length := by rw [← hr.out]; exact upto_le h x
  obtain ⟨W2, hW2⟩ : ∃ W2, (w.alloc (Obj.cells #[.slice ho h.length hc] 94)).alloc (Obj.cells #[.int .i64 x] 3) = W2 := ⟨_, rfl⟩
  have hB : Below w.heap.size w W2 := by rw [← hW2]; exact ((Below.refl _ w).alloc (Nat.le_refl _) _).alloc (by simp) _
  have hsz : W2.heap.size = w.heap.size + 1 + 1 := by rw [← hW2]; simp
  have k1 : W2.heap[w.heap.size]? = some (Obj.cells #[.slice ho h.length hc] 94 (0, 0)) := by rw [← hW2]; exact (Below.heap_alloc _ _ _ (by simp)).trans (_root_.Go.heap_alloc_new w _)
  have k2 : W2.heap[w.heap.size + 1]? = some (Obj.cells #[.int .i64 x] 3 (0, 0)) := by rw [← hW2]; exact alloc_second w _ _
  have c1 : W2.cell? ⟨w.heap.size, 0, none⟩ = some (.slice ho h.length hc) := by rw [Lib.cell_of_heap k1]; rfl
  have c2 : W2.cell? ⟨w.heap.size + 1, 0, none⟩ = some (.int .i64 x) := by rw [Lib.cell_of_heap k2]; rfl
  have hh2 := HPr.keep hh hB (Nat.le_refl _)
  go_enter Try.func74, Try.ntmps74
  go_wp2_with fail
  refine (Search_f 79 #[.pointer (some ⟨w.heap.size, 0, none⟩), .pointer (some ⟨w.heap.size + 1, 0, none⟩)] h.length r (fun i => decide (px h i ≤ x)) (fun u => Low W2 u) W2 (Below.refl _ _) (enters_of Try.func79 (by kernel_rfl) rfl) (by omega) hrl
    (fun i hi u hu => upTo1_f h x i w.heap.size (w.heap.size + 1) _ W2 u hu (by omega) (by omega) c1 c2 hh2 hi)
    (fun i hi => by
      have hi' : i < h.length := by omega
      rw [← hr.out] at hi
      have := upto_lt hi hi'
      rw [px_eq hi']
      exact decide_eq_false (by omega))
    (fun i hi hil => by
      rw [← hr.out] at hi
      rw [px_eq hil]
      exact decide_eq_true (upto_ge hs.out hi hil))).mono ?_
  rintro e w3 ⟨rfl, hL3⟩
  go_wp2
  go_ret
  exact ⟨rfl, hB.trans (Below.mono hL3 (by omega))⟩

theorem above_f (p q : Pr) (r : Bool) (w : World) (hr : Hid (decide (ab p q) = r)) :
    Calls Try.prog 46 #[prV p, prV q] w fun e w' => e = .returned (.bool r) ∧ Below w.heap.size w w' := by
  obtain ⟨ax, ay⟩ := p
  obtain ⟨bx, by'⟩ := q
  unfold prV
  have h := hr.out
  unfold ab at h
  dsimp only at h
  go_enter Try.func46, Try.ntmps46
  subst h
  clear hr
  by_cases h1 : bx < ax
  · go_wp2
    go_ret
    exact ⟨ret_bool (by simp [h1]), ((Below.refl _ w).alloc (Nat.le_refl _) _).alloc (by simp) _⟩
  · go_wp2
    go_ret
    exact ⟨ret_bool (by simp; exact decide_eq_false (by omega)), ((Below.refl _ w).alloc (Nat.le_refl _) _).alloc (by simp) _⟩

set_option maxHeartbeats 1000000 in
theorem behind_f (h : List Pr) (p : Pr) (v : Value) (w : World) (hh : HPr w v h) (hl : h.length ≤ 1048576) (hs : Hid (Stair h)) (r : Bool) (hr : Hid (r = true ↔ ∃ a ∈ h, ab a p)) :
    Calls Try.prog 62 #[v, prV p] w fun e w' => e = .returned (.bool r) ∧ Below w.heap.size w w' := by
  obtain ⟨ho, hc, rfl⟩ := Holds.form hh
  obtain ⟨X, Y⟩ := p
  have hrr := hr.out
  rw [behind_iff hs.out] at hrr
  dsimp only at hrr
  obtain ⟨k, hk⟩ : ∃ k, upto h X = k := ⟨_, rfl⟩
  have hkl := upto_le h X
  rw [hk] at hrr hkl
  have HK : Hid (upto h X = k) := hk
  have HR : Hid (r = true ↔ 0 < k ∧ ∃ a, h[k - 1]? = some a ∧ Y < a.Y) := hrr
  clear hk hrr hr
  unfold prV
  dsimp only
  obtain ⟨W1, hW1⟩ : ∃ W1, w.alloc (Obj.cells #[.int .i64 X, .int .i64 Y] 44) = W1 := ⟨_, rfl⟩
  have hB : Below w.heap.size w W1 := by rw [← hW1]; exact (Below.refl _ w).alloc (Nat.le_refl _) _
  have hsz : W1.heap.size = w.heap.size + 1 := by rw [← hW1]; simp
  have k1 : W1.heap[w.heap.size]? = some (Obj.cells #[.int .i64 X, .int .i64 Y] 44 (0, 0)) := by rw [← hW1]; exact _root_.Go.heap_alloc_new w _
  have c1 : W1.cell? ⟨w.heap.size, 0, none⟩ = some (.int .i64 X) := by rw [Lib.cell_of_heap k1]; rfl
  have c2 : W1.cell? ⟨w.heap.size, 1, none⟩ = some (.int .i64 Y) := by rw [Lib.cell_of_heap k1]; rfl
  have hh1 := HPr.keep hh hB (Nat.le_refl _)
  go_enter Try.func62, Try.ntmps62
  go_wp2_with fail
  refine (upTo_f h X _ W1 hh1 hl hs k HK).mono ?_
  rintro e w2 ⟨rfl, hB2⟩
  have hB02 : Below w.heap.size w w2 := hB.trans (hB2.mono (by omega))
  have d2 := cell_stay hB2 (by omega) c2
  have hh2 := HPr.keep hh1 hB2 (Nat.le_refl _)
  clear c1 c2 k1 hh1 hW1
  cases k with
  | zero =>
    have : r = false := by
      cases r with
      | false => rfl
      | true => have := (HR.out.1 rfl).1; omega
    subst this
    have e1 : decide ((0 : Int) < 0) = false := rfl
    go_wp2_with fail
    go_big_quiet (fail)
    go_wp2
    go_ret
    exact ⟨rfl, Below.dN hB02 _⟩
  | succ k =>
    obtain ⟨b, off, rfl, _, hcs⟩ := HPr.at hh2 (by omega)
    have d3 := (hcs k (by omega)).2
    obtain ⟨Z, hZ⟩ : ∃ Z, h[k].Y = Z := ⟨_, rfl⟩
    rw [hZ] at d3
    have hrz : r = decide (Y < Z) := by
      have := HR.out
      rw [Nat.add_sub_cancel, List.getElem?_eq_getElem (by omega)] at this
      cases r with
      | false =>
        symm
        refine decide_eq_false (fun c => ?_)
        have := this.2 ⟨by omega, _, rfl, by rw [hZ]; exact c⟩
        cases this
      | true =>
        obtain ⟨_, a, ha, hya⟩ := this.1 rfl
        cases ha
        rw [hZ] at hya
        exact (decide_eq_true hya).symm
    subst hrz
    clear hcs hZ HR HK
    have e1 : decide ((0 : Int) < (k : Int) + 1) = true := decide_eq_true (by omega)
    have i1 : 0 ≤ (k : Int) := by omega
    have i2 : (k : Int) < (h.length : Int) := by omega
    have n4 : IntKind.i64.wrap ((k : Int) + 1 - 1) = (k : Int) := by rw [IntKind.wrap_i64]; omega
    have n6 : (k : Int) + 1 - 1 = (k : Int) := by omega
    go_wp2_with fail
    go_big_quiet (fail)
    go_wp2
    go_ret
    exact ⟨rfl, Below.dN hB02 _⟩
end Go.Proofs.Ytppdcjjkkckokaa
