/-
  The reference's Length and Diff, walked.
-/
import Derived.Test.YtppdcjjkkckokaaMiRk
namespace Go.Proofs.Ytppdcjjkkckokaa
open Go.RowKit

theorem betw_len (a b : Int) (l : List Rn) : (betw a b l).length ≤ l.length := by
  induction l generalizing a b with
  | nil => simp [betw]
  | cons r l ih =>
    rw [betw]
    have := ih (r.a + r.n) (r.b + r.n)
    split <;> simp <;> omega

set_option maxRecDepth 10000 in
theorem rLength_f (x y : List Int) (vx vy : Value) (w : World) (hx : HI w vx x) (hy : HI w vy y) (hxl : x.length ≤ 4096) (hyl : y.length ≤ 4096) (r : Nat) (hr : Hid (lc x y = r)) :
    Calls Try.prog 20 #[vx, vy] w fun e w' => e = .returned (.tuple #[.int .i64 (r : Int), .int .i64 0]) ∧ Below w.heap.size w w' := by
  obtain ⟨xo, xc, rfl⟩ := Holds.form hx
  obtain ⟨yo, yc, rfl⟩ := Holds.form hy
  go_enter Try.func20, Try.ntmps20
  go_wp2_with fail
  refine (table_f x y _ _ w hx hy hxl hyl).mono ?_
  rintro e w1 ⟨rfl, hR, hB1⟩
  have t := hR.top 0 (Nat.zero_le _)
  have c := hR.at' 0 0 (Nat.zero_le _) (Nat.zero_le _)
  rw [ln_zero, hr.out] at c
  unfold rowV at t
  generalize rowB w.heap.size x.length 0 = g at *
  go_wp2
  go_ret2
  exact ⟨rfl, hB1⟩

set_option maxRecDepth 10000 in
theorem rDiff_f (x y : List Int) (vx vy : Value) (w : World) (hx : HI w vx x) (hy : HI w vy y) (hxl : x.length ≤ 4096) (hyl : y.length ≤ 4096) (L : List Ch) (hL : Hid (mkL (kp 0 x y) y.length = L)) :
    Calls Try.prog 19 #[vx, vy] w fun e w' => ∃ v', e = .returned (.tuple #[v', .int .i64 0]) ∧ HCh w' v' L ∧ Below w.heap.size w w' := by
  obtain ⟨xo, xc, rfl⟩ := Holds.form hx
  obtain ⟨yo, yc, rfl⟩ := Holds.form hy
  go_enter Try.func19, Try.ntmps19
  go_wp2_with fail
  refine (Keeps_f x y _ _ w hx hy hxl hyl (kp 0 x y) rfl).mono ?_
  rintro e w1 ⟨v, rfl, hv, hB1⟩
  have hkl := kp_length 0 x y
  have hvk : Hid (Vk 0 (y.length : Int) (kp 0 x y)) := (by
    have := kp_vk 0 x y (Int.le_refl _)
    rw [Int.zero_add] at this
    exact this)
  generalize kp 0 x y = K at *
  obtain ⟨o1, c1, rfl⟩ := Holds.form hv
  have hKl : K.length ≤ 1048576 := by omega
  have HKL : Hid (K.length = x.length) := hkl
  clear hkl
  go_wp2_with fail
  refine (rMake_f K y.length L _ _ hv hKl hvk (by omega) (by omega) hL).mono ?_
  rintro e w2 ⟨v2, rfl, hv2, hB2⟩
  obtain ⟨o2, c2, rfl⟩ := Holds.form hv2
  go_wp2
  go_ret2
  exact ⟨_, rfl, hv2, hB1.trans (hB2.mono hB1.size)⟩
end Go.Proofs.Ytppdcjjkkckokaa
