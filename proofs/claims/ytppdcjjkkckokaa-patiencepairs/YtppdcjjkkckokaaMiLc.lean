/-
  Length, walked.
-/
import Derived.Test.YtppdcjjkkckokaaMiFr
namespace Go.Proofs.Ytppdcjjkkckokaa
open Go.RowKit
attribute [local simp] low_drew

theorem low_refl (W : World) : Low W W := Below.refl _ _
theorem Low.then {W w w' : World} (h : Low W w) (hb : Below w.heap.size w w') : Low W w' := Below.trans h (hb.mono (Below.size h))
/-- what stands in a table that is filled -/
theorem done_cell {w : World} {base : Nat} {g N : Nat} {Y : List Value} (hO : w.ownsRow base 88 1 (.slice (some ⟨g, 0, none⟩) N N) N Y) {x y : List Int} (hD : Done x y 0 0 Y) {M : Nat} (hM : M = y.length + 1) (hN : N = (x.length + 1) * M) (i j q : Nat) (hi : i ≤ x.length) (hj : j ≤ y.length) (hq : q = i * M + j) : w.cell? ⟨g, q, none⟩ = some (.int .i16 ((ln x y i j : Nat) : Int)) := by
  have := hO.cellAt q (by rw [hq, hN, Nat.mul_one]; exact idx_lt (by omega) hi)
  rw [this, hq, hM]
  exact hD i j hi hj (by omega)

set_option maxRecDepth 10000 in
set_option maxHeartbeats 4000000 in
theorem Length_f (x y : List Int) (vx vy : Value) (w : World) (hx : HI w vx x) (hy : HI w vy y) (hxl : x.length ≤ 4096) (hyl : y.length ≤ 4096) (r : Nat) (hr : Hid (lc x y = r)) :
    Calls Try.prog 17 #[vx, vy] w fun e w' => e = .returned (.tuple #[.int .i64 (r : Int), .int .i64 0]) ∧ Below w.heap.size w w' := by
  obtain ⟨xo, xc, rfl⟩ := Holds.form hx
  obtain ⟨yo, yc, rfl⟩ := Holds.form hy
  go_enter Try.func17, Try.ntmps17
  go_wp2_with fail
  refine (tooLong_any x y _ _ _ hx hy false (by show _ = _; symm; simp; omega)).mono ?_
  rintro e w0 ⟨rfl, rfl⟩
  go_wp2_with fail
  obtain ⟨f, hf⟩ : ∃ f, fr x y = f := ⟨_, rfl⟩
  refine (front_f x y f _ _ _ hx hy (by omega) (by omega) hf).mono ?_
  rintro e w1 ⟨rfl, hB1⟩
  have hfl := fr_le x y
  rw [hf] at hfl
  obtain ⟨vox, vcx, hsx, hhx⟩ := run_from x xo xc f w hfl.1 hx
  obtain ⟨voy, vcy, hsy, hhy⟩ := run_from y yo yc f w hfl.2 hy
  have hx1 := HI.keep (hhx w hx) hB1 (Nat.le_refl _)
  have hy1 := HI.keep (hhy w hy) hB1 (Nat.le_refl _)
  have hL : Hid (f + lc (x.drop f) (y.drop f) = r) := (by show _ = _; rw [← hf, fr_lc, hr.out])
  have hlx : (x.drop f).length ≤ 4096 := by simp; omega
  have hly : (y.drop f).length ≤ 4096 := by simp; omega
  have HF : Hid (fr x y = f) := hf
  have hlow := low_refl w1
  have hlcb := lc_left (x.drop f) (y.drop f)
  clear hf hhx hhy
  generalize hX : x.drop f = X at *
  generalize hY : y.drop f = Y at *
  clear hX hY
  obtain ⟨c, hc⟩ : ∃ c, lc X Y = c := ⟨_, rfl⟩
  have HC : Hid (lc X Y = c) := hc
  rw [hc] at hlcb hL
  clear hc
  have hfr : f ≤ 4096 := by omega
  have hcr : c ≤ 4096 := by omega
  have hNb : (X.length + 1) * (Y.length + 1) ≤ 1099511627776 := Nat.le_trans (Nat.mul_le_mul (show X.length + 1 ≤ 4097 by omega) (show Y.length + 1 ≤ 4097 by omega)) (by decide)
  have hN0 : 0 < (X.length + 1) * (Y.length + 1) := Nat.mul_pos (by omega) (by omega)
  have hz0 : (0 : Int) * ((Y.length + 1 : Nat) : Int) = ((0 : Nat) : Int) := by simp
  have hz1 : ((0 : Nat) : Int) + 0 = ((0 : Nat) : Int) := rfl
  have hc0 : (0 : Int) ≤ (c : Int) := by omega
  have hc1 : (c : Int) ≤ 4096 := by omega
  go_wp2_with fail
  go_region_held3 (fun u => Low w1 u) (go_keep)
    (first | (go_at_call 40; refine (measure_f X Y _ _ _ (HI.keep hx1 (show Low w1 _ from (by first | assumption | (rw [low_drew]; assumption))) (Nat.le_refl _)) (HI.keep hy1 (show Low w1 _ from (by first | assumption | (rw [low_drew]; assumption))) (Nat.le_refl _)) hlx hly ((X.length + 1) * (Y.length + 1)) (Y.length + 1) rfl rfl).mono ?_; rintro e w2 ⟨g, T, rfl, hO, hD, hB2⟩; have hlow2 := Low.then (show Low w1 _ from (by first | assumption | (rw [low_drew]; assumption))) hB2; have hcell := done_cell hO hD rfl rfl 0 0 0 (Nat.zero_le _) (Nat.zero_le _) (by simp); rw [ln_zero, HC.out] at hcell) | (go_at_call 41; refine (at_f _ g _ 0 0 0 0 (c : Int) _ (Int.le_refl _) (Int.le_refl _) hz0 hz1 hNb hN0 hcell hc0 hc1).mono ?_; rintro e w3 ⟨rfl, hB3⟩; have hlow3 := Low.then hlow2 hB3))
  have hw : IntKind.i64.wrap ((f : Int) + (c : Int)) = (r : Int) := by have := hL.out; rw [IntKind.wrap_i64]; omega
  rw [hw]
  go_wp2
  go_ret2
  exact ⟨rfl, hB1.trans (Below.mono hlow3 hB1.size)⟩

set_option maxHeartbeats 1000000 in
theorem Length_long (x y : List Int) (vx vy : Value) (w : World) (hx : HI w vx x) (hy : HI w vy y) (hl : 4096 < x.length ∨ 4096 < y.length) :
    Calls Try.prog 17 #[vx, vy] w fun e w' => e = .returned (.tuple #[.int .i64 0, .int .i64 9]) ∧ Below w.heap.size w w' := by
  obtain ⟨xo, xc, rfl⟩ := Holds.form hx
  obtain ⟨yo, yc, rfl⟩ := Holds.form hy
  go_enter Try.func17, Try.ntmps17
  go_wp2_with fail
  refine (tooLong_any x y _ _ _ hx hy true (by show _ = _; symm; simp; omega)).mono ?_
  rintro e w0 ⟨rfl, rfl⟩
  go_wp2
  go_ret2
  exact ⟨rfl, Below.refl _ _⟩
end Go.Proofs.Ytppdcjjkkckokaa
