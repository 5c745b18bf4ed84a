/-
  Two scripts one behind the other: Compose of the code and of the reference, walked.
-/
import Derived.Test.YtppdcjjkkckokaaEdCo
import Derived.Test.YtppdcjjkkckokaaEdRuns
import Derived.Test.YtppdcjjkkckokaaEdRKp
import Derived.Test.YtppdcjjkkckokaaEdRMk
namespace Go.Proofs.Ytppdcjjkkckokaa
open Go.RowKit

theorem both_len (X Y : List Rn) : (bothR X Y).length ≤ X.length + Y.length := by
  induction X, Y using bothR.induct with
  | case1 Y => rw [bothR]; simp
  | case2 p x => rw [bothR]; simp
  | case3 p x q y ih1 ih2 =>
    rw [bothR, List.length_append]
    have hh : (if max p.b q.a < min (p.b + p.n) (q.a + q.n) then [(⟨p.a + (max p.b q.a - p.b), q.b + (max p.b q.a - q.a), min (p.b + p.n) (q.a + q.n) - max p.b q.a⟩ : Rn)] else []).length ≤ 1 := by split <;> simp
    have hg : (if min (p.b + p.n) (q.a + q.n) = p.b + p.n then bothR x (q :: y) else bothR (p :: x) y).length ≤ x.length + y.length + 1 := by
      simp only [List.length_cons] at ih1 ih2
      split <;> omega
    simp only [List.length_cons]
    omega
/-- all numbers from 0 to B -/
def sb (B : Int) (r : Rn) : Prop := 0 ≤ r.a ∧ r.a ≤ B ∧ 0 ≤ r.b ∧ r.b ≤ B ∧ 0 ≤ r.n ∧ r.n ≤ B
theorem both_sb (B : Int) (X Y : List Rn) (hX : ∀ r ∈ X, sb B r) (hY : ∀ r ∈ Y, sb B r) : ∀ r ∈ bothR X Y, sb (2 * B) r := by
  induction X, Y using bothR.induct with
  | case1 Y => rw [bothR]; simp
  | case2 p x => rw [bothR]; simp
  | case3 p x q y ih1 ih2 =>
    intro r hr
    rw [bothR, List.mem_append] at hr
    rcases hr with hr | hr
    · split at hr
      · rw [List.mem_singleton] at hr
        subst hr
        obtain ⟨h1, h2, h3, h4, h5, h6⟩ := hX p (List.mem_cons_self ..)
        obtain ⟨g1, g2, g3, g4, g5, g6⟩ := hY q (List.mem_cons_self ..)
        unfold sb
        dsimp only
        refine ⟨?_, ?_, ?_, ?_, ?_, ?_⟩ <;> omega
      · simp at hr
    · split at hr
      · exact ih1 (fun r h => hX r (List.mem_cons_of_mem _ h)) hY r hr
      · exact ih2 hX (fun r h => hY r (List.mem_cons_of_mem _ h)) r hr
theorem pieces_len (a b n m : Int) (l : List Ch) : (piecesL a b n m l).length = l.length + 1 := by
  induction l generalizing a b with
  | nil => simp [piecesL]
  | cons c l ih => simp [piecesL, ih]
theorem pieces_pc {f : Bool} {a b n m : Int} {l : List Ch} (h : Right f a b n m l) (ha : 0 ≤ a) (hb : 0 ≤ b) : ∀ x ∈ piecesL a b n m l, Pc n m x := by
  induction l generalizing a b f with
  | nil =>
    intro x hx
    rw [piecesL, List.mem_singleton] at hx
    subst hx
    exact h.pcEnd ha hb
  | cons c l ih =>
    intro x hx
    rw [piecesL, List.mem_cons] at hx
    rcases hx with rfl | hx
    · exact h.pc ha hb
    · obtain ⟨⟨h1, h2, h3, h4⟩, h5⟩ := h
      rw [numB_iff] at h1
      exact ih h5 (by omega) (by omega) x hx
theorem rns_sb {x : List Ch} {n m B : Int} (h : Script x n m) (hn : n ≤ B) (hm : m ≤ B) : ∀ r ∈ rns 0 0 n m x, sb B r := by
  intro r hr
  unfold rns at hr
  obtain ⟨p, hp, rfl⟩ := List.mem_map.1 hr
  obtain ⟨h1, h2, h3, h4, h5, h6, h7, h8, h9, h10⟩ := pieces_pc h.2.2 (Int.le_refl _) (Int.le_refl _) p hp
  unfold sb
  omega

theorem Compose_f (x y L : List Ch) (n m k : Int) (vx vy : Value) (w : World) (hx : HCh w vx x) (hy : HCh w vy y) (hX : Hid (Script x n m)) (hY : Hid (Script y m k)) (hn : n ≤ 65536) (hm : m ≤ 65536) (hk : k ≤ 65536) (hxl : x.length ≤ 1048576) (hyl : y.length ≤ 1048576) (hL : Hid (compS x y n m k = L)) :
    Calls Try.prog 10 #[vx, vy, .int .i64 n, .int .i64 m, .int .i64 k] w fun e w' => ∃ v', e = .returned (.tuple #[v', .int .i64 0]) ∧ HCh w' v' L ∧ Below w.heap.size w w' := by
  obtain ⟨xo, xc, rfl⟩ := Holds.form hx
  obtain ⟨yo, yc, rfl⟩ := Holds.form hy
  obtain ⟨X, hXe⟩ : ∃ X, rns 0 0 n m x = X := ⟨_, rfl⟩
  obtain ⟨Y, hYe⟩ : ∃ Y, rns 0 0 m k y = Y := ⟨_, rfl⟩
  have hXl : Hid (X.length = x.length + 1) := (by show _ = _; rw [← hXe]; unfold rns; rw [List.length_map, pieces_len])
  have hYl : Hid (Y.length = y.length + 1) := (by show _ = _; rw [← hYe]; unfold rns; rw [List.length_map, pieces_len])
  have sX := rns_sb hX.out hn hm
  have sY := rns_sb hY.out hm hk
  rw [hXe] at sX
  rw [hYe] at sY
  have sXY := both_sb _ _ _ sX sY
  obtain ⟨R, hR⟩ : ∃ R, bothR X Y = R := ⟨_, rfl⟩
  have hRl : R.length ≤ x.length + 1 + (y.length + 1) := by rw [← hR, ← hXl.out, ← hYl.out]; exact both_len X Y
  rw [hR] at sXY
  have HR : Hid (bothR X Y = R) := hR
  have HsX : Hid (∀ r ∈ X, sm r) := fun r h => by have := sX r h; unfold sb at this; unfold sm; omega
  have HsY : Hid (∀ r ∈ Y, sm r) := fun r h => by have := sY r h; unfold sb at this; unfold sm; omega
  have HN : Hid (∀ c ∈ L, numB c = true) := fun c hc => by
    rw [← hL.out] at hc
    exact (comp_script hX.out hY.out (by omega) (by omega)).1.2.2.num c hc
  obtain ⟨RS, hRS⟩ : ∃ RS, R ++ [⟨n, k, 0⟩] = RS := ⟨_, rfl⟩
  have h0 := hX.out.1
  have h1 := hY.out.2.1
  have HRS : Hid (R ++ [⟨n, k, 0⟩] = RS) := hRS
  have Hs : Hid (∀ r ∈ RS, sm r) := fun r h => by
    rw [← hRS, List.mem_append, List.mem_singleton] at h
    rcases h with h | rfl
    · have := sXY r h
      unfold sb at this
      unfold sm
      omega
    · unfold sm
      dsimp only
      omega
  have HL : Hid (betw 0 0 RS = L) := (by
    show _ = _
    rw [← hL.out, ← hRS, ← hR, ← hXe, ← hYe]
    rfl)
  have HX1 : Hid ((piecesL 0 0 n m x).length = X.length ∧ (piecesL 0 0 n m x).map (·.1) = X) := ⟨by rw [← hXe]; unfold rns; simp, hXe⟩
  have HY1 : Hid ((piecesL 0 0 m k y).length = Y.length ∧ (piecesL 0 0 m k y).map (·.1) = Y) := ⟨by rw [← hYe]; unfold rns; simp, hYe⟩
  clear hXe hYe sX sY sXY hR hRS
  go_enter Try.func10, Try.ntmps10
  go_wp2_with fail
  refine (Check_f x n m 0 _ w hx (by omega) (by omega) (by omega) (chk_ok hX.out)).mono ?_
  rintro e w1 ⟨rfl, hB1⟩
  go_wp2_with fail
  have hy1 := HCh.keep hy hB1 (Nat.le_refl _)
  refine (Check_f y m k 0 _ w1 hy1 (by omega) (by omega) (by omega) (chk_ok hY.out)).mono ?_
  rintro e w2 ⟨rfl, hB2⟩
  have hB2' := hB1.trans (hB2.mono hB1.size)
  go_wp2_with fail
  have hx2 := HCh.keep hx hB2' (Nat.le_refl _)
  refine (runs_any x n m _ w2 hx2 hX.out (by omega) (by omega) hxl).mono ?_
  rintro e w3 ⟨vX, rfl, hO3, hB3⟩
  rw [HX1.out.1, HX1.out.2] at hO3
  have hB3' := hB2'.trans (hB3.mono hB2'.size)
  obtain ⟨Xo, Xc, rfl⟩ := (holds_of hO3).form
  go_wp2_with fail
  have hy3 := HCh.keep hy hB3' (Nat.le_refl _)
  refine (runs_any y m k _ w3 hy3 hY.out (by omega) (by omega) hyl).mono ?_
  rintro e w4 ⟨vY, rfl, hO4, hB4⟩
  rw [HY1.out.1, HY1.out.2] at hO4
  have hB4' := hB3'.trans (hB4.mono hB3'.size)
  obtain ⟨Yo, Yc, rfl⟩ := (holds_of hO4).form
  have hX4 : HRn w4 (.slice Xo X.length Xc) X := HRn.keep (holds_of hO3) hB4 (Nat.le_refl _)
  go_wp2_with fail
  refine (both_f X Y R _ _ w4 hX4 (holds_of hO4) (by have := hXl.out; omega) (by have := hYl.out; omega) HsX HsY HR).mono ?_
  rintro e w5 ⟨vR, rfl, hO5, hB5⟩
  have hB5' := hB4'.trans (hB5.mono hB4'.size)
  have hs5 := hB5.size
  obtain ⟨Ro, Rc, rfl⟩ := (holds_of hO5).form
  go_wp2_with fail
  refine (between_f R RS L n k _ w4.heap.size w5 hs5 hO5 (by omega) HRS HL Hs HN).mono ?_
  rintro e w6 ⟨vL, rfl, hL6, hB6⟩
  obtain ⟨Lo, Lc, rfl⟩ := Holds.form hL6
  have hB6' := hB5'.trans (hB6.mono hB4'.size)
  go_wp2
  go_ret2
  exact ⟨_, rfl, hL6, hB6'⟩

theorem Compose_no (x y : List Ch) (n m k : Int) (vx vy : Value) (w : World) (hx : HCh w vx x) (hy : HCh w vy y) (hS : ¬ (Script x n m ∧ Script y m k)) (hn : n ≤ 65536) (hm : m ≤ 65536) (hk : k ≤ 65536) (hxl : x.length ≤ 1048576) (hyl : y.length ≤ 1048576) :
    Calls Try.prog 10 #[vx, vy, .int .i64 n, .int .i64 m, .int .i64 k] w fun e w' => e = .returned (.tuple #[.slice none 0 0, .int .i64 50]) ∧ Below w.heap.size w w' := by
  obtain ⟨xo, xc, rfl⟩ := Holds.form hx
  obtain ⟨yo, yc, rfl⟩ := Holds.form hy
  by_cases hX : Script x n m
  · have hY : ¬ Script y m k := fun h => hS ⟨hX, h⟩
    have HX : Hid (Script x n m) := hX
    have HY : Hid (¬ Script y m k) := hY
    clear hS hX hY
    go_enter Try.func10, Try.ntmps10
    go_wp2_with fail
    refine (Check_f x n m 0 _ w hx (by omega) (by omega) (by omega) (chk_ok HX.out)).mono ?_
    rintro e w1 ⟨rfl, hB1⟩
    go_wp2_with fail
    refine (Check_f y m k 50 _ w1 (HCh.keep hy hB1 (Nat.le_refl _)) (by omega) (by omega) (by omega) (chk_no HY.out)).mono ?_
    rintro e w2 ⟨rfl, hB2⟩
    have hB2' := hB1.trans (hB2.mono hB1.size)
    go_wp2
    go_ret2
    exact ⟨rfl, hB2'⟩
  · have HX : Hid (¬ Script x n m) := hX
    clear hS hX
    go_enter Try.func10, Try.ntmps10
    go_wp2_with fail
    refine (Check_f x n m 50 _ w hx (by omega) (by omega) (by omega) (chk_no HX.out)).mono ?_
    rintro e w1 ⟨rfl, hB1⟩
    go_wp2
    go_ret2
    exact ⟨rfl, hB1⟩
end Go.Proofs.Ytppdcjjkkckokaa
