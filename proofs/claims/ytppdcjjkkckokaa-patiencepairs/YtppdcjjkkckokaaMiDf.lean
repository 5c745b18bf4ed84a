/-
  Diff and the law's own test works, walked.
-/
import Derived.Test.YtppdcjjkkckokaaMiKw
namespace Go.Proofs.Ytppdcjjkkckokaa
open Go.RowKit

set_option maxRecDepth 10000 in
set_option maxHeartbeats 2000000 in
theorem Diff_f (x y : List Int) (vx vy : Value) (w : World) (hx : HI w vx x) (hy : HI w vy y) (hxl : x.length ≤ 4096) (hyl : y.length ≤ 4096) (L : List Ch) (hL : Hid (mkL (kp 0 x y) y.length = L)) :
    Calls Try.prog 18 #[vx, vy] w fun e w' => ∃ v', e = .returned (.tuple #[v', .int .i64 0]) ∧ HCh w' v' L ∧ Below w.heap.size w w' := by
  obtain ⟨xo, xc, rfl⟩ := Holds.form hx
  obtain ⟨yo, yc, rfl⟩ := Holds.form hy
  go_enter Try.func18, Try.ntmps18
  go_wp2_with fail
  refine (tooLong_any x y _ _ _ hx hy false (by show _ = _; symm; simp; omega)).mono ?_
  rintro e w0 ⟨rfl, rfl⟩
  go_wp2_with fail
  refine (kept_f x y _ _ _ hx hy hxl hyl (kp 0 x y) rfl).mono ?_
  rintro e w1 ⟨v, rfl, hv, hB1⟩
  have hkl := kp_length 0 x y
  have hvk : Hid (Vk 0 (y.length : Int) (kp 0 x y)) := (by
    have := kp_vk 0 x y (Int.le_refl _)
    rw [Int.zero_add] at this
    exact this)
  generalize kp 0 x y = K at *
  obtain ⟨o1, c1, rfl⟩ := Holds.form hv
  have hKl : K.length ≤ 1048576 := by omega
  have HKL : Hid (K.length = x.length) := hkl
  clear hkl
  go_wp2_with fail
  refine (Make_f K y.length L _ _ hv hKl hvk (by omega) (by omega) hL).mono ?_
  rintro e w2 ⟨v2, rfl, hv2, hB2⟩
  go_wp2
  go_ret2
  exact ⟨_, rfl, hv2, hB1.trans (hB2.mono hB1.size)⟩

set_option maxHeartbeats 1000000 in
theorem Diff_long (x y : List Int) (vx vy : Value) (w : World) (hx : HI w vx x) (hy : HI w vy y) (hl : 4096 < x.length ∨ 4096 < y.length) :
    Calls Try.prog 18 #[vx, vy] w fun e w' => e = .returned (.tuple #[.slice none 0 0, .int .i64 9]) ∧ Below w.heap.size w w' := by
  obtain ⟨xo, xc, rfl⟩ := Holds.form hx
  obtain ⟨yo, yc, rfl⟩ := Holds.form hy
  go_enter Try.func18, Try.ntmps18
  go_wp2_with fail
  refine (tooLong_any x y _ _ _ hx hy true (by show _ = _; symm; simp; omega)).mono ?_
  rintro e w0 ⟨rfl, rfl⟩
  go_wp2
  go_ret2
  exact ⟨rfl, Below.refl _ _⟩

theorem ex_lc : lc [1, 2, 3, 1] [2, 1, 3] = 2 := by simp [lc]
theorem ex_kp : kp 0 [1, 2, 3, 1] [2, 1, 3] = [-1, 0, -1, 1] := by simp [kp, lc]
theorem ex_mk : mkL (kp 0 [1, 2, 3, 1] [2, 1, 3]) (([2, 1, 3] : List Int).length : Int) = [⟨0, 1, 0, 0⟩, ⟨2, 1, 1, 0⟩, ⟨4, 0, 2, 1⟩] := by rw [ex_kp]; decide
/-- two new rows -/
theorem two_rows (W : World) (cs ds : Array Value) (n m g : Nat) (hg : W.heap.size + 1 = g) (X Y : List Int) (hX : cs.toList = icells X) (hY : ds.toList = icells Y) (hn : n = X.length) (hm : m = Y.length) :
    HI ((W.alloc (.cells cs 3)).alloc (.cells ds 3)) (.slice (some ⟨W.heap.size, 0, none⟩) n n) X ∧ HI ((W.alloc (.cells cs 3)).alloc (.cells ds 3)) (.slice (some ⟨g, 0, none⟩) m m) Y ∧ Below W.heap.size W ((W.alloc (.cells cs 3)).alloc (.cells ds 3)) := by
  subst hn hm
  refine ⟨?_, ?_, ((Below.refl _ W).alloc (Nat.le_refl _) _).alloc (by simp) _⟩
  · have h : HI (W.alloc (.cells cs 3)) (.slice (some ⟨W.heap.size, 0, none⟩) X.length X.length) X := by
      have := new_holds W cs 3 X.length X.length (Nat.le_refl _)
      rw [hX] at this
      exact this
    exact HI.keep h ((Below.refl _ _).alloc (Nat.le_refl _) _) (Nat.le_refl _)
  · have := new_holds_at (W.alloc (.cells cs 3)) g (by rw [World.size_alloc]; exact hg) ds 3 Y.length Y.length (Nat.le_refl _)
    rw [hY] at this
    exact this

set_option maxRecDepth 10000 in
set_option maxHeartbeats 2000000 in
theorem works_any (w : World) : Calls Try.prog 22 #[] w fun e w' => e = .returned (.bool true) ∧ Below w.heap.size w w' := by
  go_enter Try.func22, Try.ntmps22
  go_wp2_with fail
  obtain ⟨r1, r2, r3⟩ := two_rows w #[.int .i64 1, .int .i64 2, .int .i64 3, .int .i64 1] #[.int .i64 2, .int .i64 1, .int .i64 3] 4 3 _ rfl [1, 2, 3, 1] [2, 1, 3] rfl rfl rfl rfl
  refine (Diff_f [1, 2, 3, 1] [2, 1, 3] _ _ _ r1 r2 (by decide) (by decide) [⟨0, 1, 0, 0⟩, ⟨2, 1, 1, 0⟩, ⟨4, 0, 2, 1⟩] ex_mk).mono ?_
  rintro e w1 ⟨v1, rfl, hv1, hB1⟩
  have hB01 := r3.trans (hB1.mono r3.size)
  clear r1 r2 r3 hB1
  obtain ⟨o1, c1, rfl⟩ := Holds.form hv1
  go_wp2_with fail
  obtain ⟨r1, r2, r3⟩ := two_rows w1 #[.int .i64 1, .int .i64 2, .int .i64 3, .int .i64 1] #[.int .i64 2, .int .i64 1, .int .i64 3] 4 3 _ rfl [1, 2, 3, 1] [2, 1, 3] rfl rfl rfl rfl
  refine (Length_f [1, 2, 3, 1] [2, 1, 3] _ _ _ r1 r2 (by decide) (by decide) 2 ex_lc).mono ?_
  rintro e w2 ⟨rfl, hB2⟩
  have hB12 := r3.trans (hB2.mono r3.size)
  have hB02 := hB01.trans (hB12.mono hB01.size)
  have hv2 := HCh.keep hv1 hB12 (Nat.le_refl _)
  clear r1 r2 r3 hB2 hB12 hv1
  go_wp2_with fail
  have hB3 : Below w2.heap.size w2 (w2.alloc (Obj.cells #[Value.int IntKind.i64 0, Value.int IntKind.i64 1, Value.int IntKind.i64 0, Value.int IntKind.i64 0, Value.int IntKind.i64 2, Value.int IntKind.i64 1, Value.int IntKind.i64 1, Value.int IntKind.i64 0, Value.int IntKind.i64 4, Value.int IntKind.i64 0, Value.int IntKind.i64 2, Value.int IntKind.i64 1] 59)) := (Below.refl _ w2).alloc (Nat.le_refl _) _
  refine (SameC_any _ _ [⟨0, 1, 0, 0⟩, ⟨2, 1, 1, 0⟩, ⟨4, 0, 2, 1⟩] _ (by decide) (HCh.keep hv2 hB3 (Nat.le_refl _)) (new_holds w2 _ _ _ _ (by decide))).mono ?_
  rintro e w3 ⟨rfl, hB3'⟩
  go_wp2
  go_ret
  exact ⟨rfl, hB02.trans ((hB3.trans (hB3'.mono (by simp))).mono hB02.size)⟩
end Go.Proofs.Ytppdcjjkkckokaa
