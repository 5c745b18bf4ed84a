/-
  Texts that belong together, joined: PcLe, HiRt, HiRr, HiRb.
-/
import Derived.Test.YtmhanngimmjmoaaPart7
import Derived.Deep.CutRange

/- The reference's Least, walked. -/
namespace Go.Proofs.Ytmhanngimmjmoaa
open Go.RowKit
attribute [local simp] low_drew

theorem Pbox.low {u u' : World} {B a b c d : Nat} (h : Pbox u B a b c d) (hg : Below u.heap.size u u') : Pbox u' B a b c d := (hg.block B (Array.getElem?_eq_some_iff.1 h).1).trans h
theorem Pbox.keep {u u' : World} {B a b c d : Nat} (h : Pbox u B a b c d) {r : Option Nat} (hg : u.grownBy u' r) (hr : some B ≠ r) : Pbox u' B a b c d := (hg.block B (Array.getElem?_eq_some_iff.1 h).1 hr).trans h
theorem Pbox.new (w : World) (a b c d : Nat) : Pbox (w.alloc (.cells #[.int .i64 (a : Int), .int .i64 (b : Int), .int .i64 (c : Int), .int .i64 (d : Int)] 72)) w.heap.size a b c d := _root_.Go.heap_alloc_new w _
theorem Keeps_low (x y : List Int) (vx vy : Value) (W u : World) (hx : HI u vx x) (hy : HI u vy y) (hxl : x.length ≤ 4096) (hyl : y.length ≤ 4096) (K : List Int) (hK : Hid (kp 0 x y = K)) (hL : Low W u) :
    Calls Try.prog 81 #[vx, vy] u fun e w' => ∃ v' B, e = .returned v' ∧ W.heap.size ≤ B ∧ w'.ownsRow B 3 1 v' K.length (icells K) ∧ Low W w' := by
  refine (Keeps_own x y vx vy u hx hy hxl hyl K hK).mono ?_
  rintro e w' ⟨v', B, rfl, h1, h2, h3⟩
  exact ⟨v', B, rfl, Nat.le_trans (Below.size hL) h1, h2, Below.trans hL (h3.mono (Below.size hL))⟩

set_option maxRecDepth 10000 in
set_option maxHeartbeats 4000000 in
theorem Least_f (x y : List Int) (W0 w : World) (vx vy : Value) (hx : HI W0 vx x) (hy : HI W0 vy y) (hxl : x.length ≤ 4096) (hyl : y.length ≤ 4096) (K : List Int) (hS : Ls W0 W0.heap.size x.length K w) (a b c d : Nat) (hab : a ≤ b) (hb : b ≤ x.length) (hcd : c ≤ d) (hd : d ≤ y.length) (KF : List Int) (hKF : Hid (wrk K (lp a c (kp 0 (sub x a b) (sub y c d))) = KF)) :
    Calls Try.prog 66 #[.slice (some ⟨W0.heap.size, 0, none⟩) x.length x.length, vx, vy, .agg #[.int .i64 (a : Int), .int .i64 (b : Int), .int .i64 (c : Int), .int .i64 (d : Int)]] w fun e w' => e = .returned (.tuple #[]) ∧ Ls W0 W0.heap.size x.length KF w' ∧ w.grownBy w' (some W0.heap.size) := by
  obtain ⟨xo, xc, rfl⟩ := Holds.form hx
  obtain ⟨yo, yc, rfl⟩ := Holds.form hy
  have hg := hS.lt.2
  have r1 := run_slB xo x.length xc a b hab hb (hold_cap hx)
  have r2 := run_slB yo y.length yc c d hcd hd (hold_cap hy)
  obtain ⟨X, hX⟩ : ∃ X, sub x a b = X := ⟨_, rfl⟩
  obtain ⟨Y, hY⟩ : ∃ Y, sub y c d = Y := ⟨_, rfl⟩
  obtain ⟨nx, hnx⟩ : ∃ nx, b - a = nx := ⟨_, rfl⟩
  obtain ⟨ny, hny⟩ : ∃ ny, d - c = ny := ⟨_, rfl⟩
  have hXl : X.length = nx := by rw [← hX, sub_length x a b hb, hnx]
  have hYl : Y.length = ny := by rw [← hY, sub_length y c d hd, hny]
  rw [hnx] at r1
  rw [hny] at r2
  obtain ⟨Z, hZ⟩ : ∃ Z, kp 0 X Y = Z := ⟨_, rfl⟩
  rw [hX, hY, hZ] at hKF
  have HZ : Hid (kp 0 X Y = Z) := hZ
  have HZl : Hid (Z.length = nx) := (by show _ = _; rw [← hZ, kp_length, hXl])
  have HV : Hid (Vk 0 ny Z) := (by
    have := kp_vk 0 X Y (Int.le_refl _)
    rw [hZ, Int.zero_add, hYl] at this
    exact this)
  have hxs : ∀ u : World, Low (w.alloc (.cells #[.int .i64 (a : Int), .int .i64 (b : Int), .int .i64 (c : Int), .int .i64 (d : Int)] 72)) u → HI u (.slice (slF xo xc a) nx (xc - a)) X ∧ HI u (.slice (slF yo yc c) ny (yc - c)) Y := fun u hu => by
    have hlow : Below W0.heap.size W0 u := (hS.low.alloc hS.low.size _).trans (Below.mono hu (by have := hS.low.size; simp; omega))
    have h1 := hold_sub (HI.keep hx hlow (Nat.le_refl _)) hab hb
    have h2 := hold_sub (HI.keep hy hlow (Nat.le_refl _)) hcd hd
    unfold HI
    rw [hXl, hYl]
    rw [hX, hnx] at h1
    rw [hY, hny] at h2
    exact ⟨h1, h2⟩
  have HE : Hid (b = a + nx ∧ d = c + ny ∧ X.length = nx ∧ Y.length = ny) := ⟨by omega, by omega, hXl, hYl⟩
  generalize slF xo xc a = xo' at r1 hxs
  generalize slF yo yc c = yo' at r2 hxs
  generalize xc - a = xc' at r1 hxs
  generalize yc - c = yc' at r2 hxs
  have hnl : nx ≤ 4096 := by omega
  clear hX hY hnx hny hXl hYl hZ
  have hQ0 := Pbox.new w a b c d
  have hB0 := (Below.refl w.heap.size w).alloc (Nat.le_refl _) (.cells #[.int .i64 (a : Int), .int .i64 (b : Int), .int .i64 (c : Int), .int .i64 (d : Int)] 72)
  have hcs : ∀ u : World, Low (w.alloc (.cells #[.int .i64 (a : Int), .int .i64 (b : Int), .int .i64 (c : Int), .int .i64 (d : Int)] 72)) u → u.cell? ⟨w.heap.size, 0, none⟩ = some (.int .i64 (a : Int)) ∧ u.cell? ⟨w.heap.size, 1, none⟩ = some (.int .i64 (b : Int)) ∧ u.cell? ⟨w.heap.size, 2, none⟩ = some (.int .i64 (c : Int)) ∧ u.cell? ⟨w.heap.size, 3, none⟩ = some (.int .i64 (d : Int)) := fun u hu => (hQ0.low hu).cells
  obtain ⟨W1, hW1⟩ : ∃ W1, w.alloc (.cells #[.int .i64 (a : Int), .int .i64 (b : Int), .int .i64 (c : Int), .int .i64 (d : Int)] 72) = W1 := ⟨_, rfl⟩
  rw [hW1] at hQ0 hB0 hcs hxs
  have hsz : W1.heap.size = w.heap.size + 1 := by rw [← hW1]; simp
  obtain ⟨c0, c1, c2, c3⟩ := hQ0.cells
  go_enter Try.func66, Try.ntmps66
  go_wp2_with fail
  have hLw : Low W1 W1 := Below.refl _ _
  clear hW1
  go_region_held3 (fun u => u.cell? ⟨w.heap.size, 0, none⟩ = some (.int .i64 (a : Int)) ∧ u.cell? ⟨w.heap.size, 1, none⟩ = some (.int .i64 (b : Int)) ∧ u.cell? ⟨w.heap.size, 2, none⟩ = some (.int .i64 (c : Int)) ∧ u.cell? ⟨w.heap.size, 3, none⟩ = some (.int .i64 (d : Int)) ∧ Low W1 u) (go_keep)
    (first | (go_at_call 81; refine (Keeps_low X Y _ _ W1 _ (hxs _ (by first | assumption | (simp [*]; done))).1 (hxs _ (by first | assumption | (simp [*]; done))).2 (by have := HE.out; omega) (by have := HE.out; omega) Z HZ (by first | assumption | (simp [*]; done))).mono ?_; rintro e wd ⟨v', B, rfl, hBB, hO, hlw⟩; obtain ⟨g0, g1, g2, g3⟩ := hcs wd hlw))
  obtain ⟨zo, zc, rfl⟩ := (holds_of hO).form
  rw [HZl.out] at hO ⊢
  have hBw : Below w.heap.size w wd := hB0.trans (Below.mono hlw (by omega))
  have hQ2 := hQ0.low hlw
  have hS2 := hS.keep hBw
  have hG2 := low_grown hBw (some W0.heap.size)
  clear c0 c1 c2 c3 g0 g1 g2 g3 hcs hxs r1 r2 hlw hLw hQ0 hB0 hS HZ hBw
  go_wp2
  go_loopw [9] (fun iv wr => ∃ (i : Nat) (K2 : List Int), i ≤ nx ∧ iv = .int .i64 i ∧ Ls W0 W0.heap.size x.length K2 wr ∧ w.grownBy wr (some W0.heap.size) ∧ Pbox wr w.heap.size a b c d ∧ wr.ownsRow B 3 1 (.slice zo nx zc) nx (icells Z) ∧ Hid (wrk K2 (lp ((a : Int) + i) c (Z.drop i)) = KF)) (fun iv _ => nx - (intOf iv).toNat)
  case atStart => exact ⟨0, K, Nat.zero_le _, rfl, hS2, hG2, hQ2, hO, by simpa using hKF⟩
  case round =>
    clear hS2 hG2 hQ2 hO hKF
    obtain ⟨i, K2, hi, rfl, hS, hG, hQ, hO, HW⟩ := hrel
    by_cases hlt : i < nx
    · have hiZ : i < Z.length := by have := HZl.out; omega
      obtain ⟨zb, zf, zcc, hze, _, hcz⟩ := Holds.at (holds_of hO) (by rw [icells_length]; omega)
      cases hze
      have z0 := hcz i (by rw [icells_length]; omega)
      obtain ⟨j, hj⟩ : ∃ j, Z[i] = j := ⟨_, rfl⟩
      have z1 : wr.cell? ⟨zb, zf + i, none⟩ = some (.int .i64 j) := by rw [z0]; simp [icells, hj]
      have hjv := (HV.out.each (Int.le_refl _)) j (by rw [← hj]; exact List.getElem_mem _)
      have hjl := HV.out.lt j (by rw [← hj]; exact List.getElem_mem _)
      have HW2 : Hid (wrk K2 ((if j = -1 then [] else [⟨(a : Int) + i, c + j⟩]) ++ lp ((a : Int) + i + 1) c (Z.drop (i + 1))) = KF) := (by
        show _ = _
        have := HW.out
        rw [List.drop_eq_getElem_cons hiZ, lp, hj] at this
        exact this)
      clear z0 hcz hj HW
      have i1 : 0 ≤ (i : Int) := by omega
      have i2 : (i : Int) < (nx : Int) := by omega
      by_cases hj1 : j = -1
      · have e1 : ¬ 0 ≤ j := by omega
        have e2 : decide (0 ≤ j) = false := decide_eq_false e1
        have HW3 : Hid (wrk K2 (lp ((a : Int) + ((i + 1 : Nat) : Int)) c (Z.drop (i + 1))) = KF) := (by
          show _ = _
          rw [← HW2.out, if_pos hj1, List.nil_append, show (a : Int) + ((i + 1 : Nat) : Int) = (a : Int) + i + 1 by omega])
        clear HW2 hj1 hjv hjl
        go_wp2
        go_roundw
        case rel => exact ⟨i + 1, K2, by omega, by go_num, hS, hG, hQ, hO, HW3⟩
        case measure => simp [intOf]; omega
      · obtain ⟨q, rfl⟩ : ∃ q : Nat, j = q := ⟨j.toNat, by omega⟩
        have hqn : q < ny := by omega
        obtain ⟨u, hu⟩ : ∃ u, a + i = u := ⟨_, rfl⟩
        obtain ⟨v, hv⟩ : ∃ v, c + q = v := ⟨_, rfl⟩
        have hE := HE.out
        have n1 : (a : Int) + (i : Int) = (u : Int) := by omega
        have n2 : (c : Int) + (q : Int) = (v : Int) := by omega
        have n3 : IntKind.i64.wrap (u : Int) = (u : Int) := by rw [IntKind.wrap_i64]; omega
        have n4 : IntKind.i64.wrap (v : Int) = (v : Int) := by rw [IntKind.wrap_i64]; omega
        have i3 : 0 ≤ (u : Int) := by omega
        have i4 : (u : Int) < (x.length : Int) := by omega
        have e1 : 0 ≤ (q : Int) := by omega
        have hl := hS.len
        have d0 := hS.at (List.getElem?_eq_getElem (i := u) (by omega))
        have f0 := hS.own.frozenAt u
        have hS1 := hS.set u (v : Int)
        have hG1 := hG.trans (grown_set wr W0.heap.size u (.int .i64 (v : Int)))
        have hQ1 := hQ.keep (grown_set wr W0.heap.size u (.int .i64 (v : Int))) (by simp; omega)
        have hO1 := holds_grown hO (grown_set wr W0.heap.size u (.int .i64 (v : Int))) (by omega)
        have HW3 : Hid (wrk (K2.set u (v : Int)) (lp ((a : Int) + ((i + 1 : Nat) : Int)) c (Z.drop (i + 1))) = KF) := (by
          show _ = _
          rw [← HW2.out, if_neg hj1, wrk_append, show (a : Int) + ((i + 1 : Nat) : Int) = (a : Int) + i + 1 by omega]
          simp only [wrk, List.foldl_cons, List.foldl_nil, n1, n2, Int.toNat_natCast])
        generalize K2[u] = z0 at d0
        obtain ⟨c0, c1, c2, c3⟩ := hQ.cells
        clear HW2 hj1 hjv hjl hl hu hv hE
        go_wp2
        go_region
        go_wp2
        go_roundw
        case rel => exact ⟨i + 1, _, by omega, by go_num, hS1.drewN 1, grown_drewN hG1 1, hQ1, hO1, HW3⟩
        case measure => simp [intOf]; omega
    · obtain rfl : i = nx := by omega
      have e : K2 = KF := by
        have := HW.out
        rw [List.drop_of_length_le (by have := HZl.out; omega)] at this
        exact this
      subst e
      go_wp2
      go_end0
      exact ⟨rfl, hS, hG⟩
end Go.Proofs.Ytmhanngimmjmoaa

/- Rows of runs as cells; the reference's times and Runs, walked. -/
namespace Go.Proofs.Ytmhanngimmjmoaa
open Go.RowKit

/-- a run as cells -/
def hrC (r : Hr) : List Value := [.int .i64 (r.X : Int), .int .i64 (r.Y : Int), .int .i64 (r.N : Int), .int .i64 (r.R : Int)]
def hrcells (l : List Hr) : List Value := l.flatMap hrC
theorem infoHr : (Try.prog.info? 53).map (fun i => (i.zero, i.size, i.bytes)) = some (some (.agg #[.int .i64 0, .int .i64 0, .int .i64 0, .int .i64 0]), 4, 32) := by kernel_rfl
theorem hrcells_length (l : List Hr) : (hrcells l).length = l.length * 4 := by
  induction l with
  | nil => rfl
  | cons c l ih => simp only [hrcells, List.flatMap_cons, List.length_append, List.length_cons] at ih ⊢; rw [ih]; simp [hrC]; omega
theorem hrcells_append (a b : List Hr) : hrcells (a ++ b) = hrcells a ++ hrcells b := by simp [hrcells]
theorem hrcells_one (l : List Hr) : ∀ u ∈ hrcells l, u.oneCell' = true := by
  intro u hu
  simp only [hrcells, List.mem_flatMap, hrC] at hu
  obtain ⟨c, _, h⟩ := hu
  simp only [List.mem_cons, List.not_mem_nil, or_false] at h
  rcases h with rfl | rfl | rfl | rfl <;> rfl
theorem hrcells_at (l : List Hr) (k : Nat) (hk : k < l.length) : (hrcells l)[4 * k]? = some (.int .i64 (l[k].X : Int)) ∧ (hrcells l)[4 * k + 1]? = some (.int .i64 (l[k].Y : Int)) ∧ (hrcells l)[4 * k + 2]? = some (.int .i64 (l[k].N : Int)) ∧ (hrcells l)[4 * k + 3]? = some (.int .i64 (l[k].R : Int)) := by
  induction l generalizing k with
  | nil => simp at hk
  | cons c l ih =>
    cases k with
    | zero => simp [hrcells, hrC]
    | succ k =>
      have h := ih k (by simpa using hk)
      have e : ∀ i, (hrcells (c :: l))[4 * (k + 1) + i]? = (hrcells l)[4 * k + i]? := by
        intro i
        have : hrcells (c :: l) = hrC c ++ hrcells l := rfl
        rw [this, List.getElem?_append_right (by simp [hrC]; omega)]
        congr 1
        simp [hrC]; omega
      simp only [List.getElem_cons_succ]
      refine ⟨by rw [← (h).1]; exact e 0, by rw [← h.2.1]; exact e 1, by rw [← h.2.2.1]; exact e 2, by rw [← h.2.2.2]; exact e 3⟩
/-- what a slice of runs holds -/
def HHr (w : World) (v : Value) (l : List Hr) : Prop := Holds w v l.length (hrcells l)
theorem HHr.keep {w w' : World} {v : Value} {l : List Hr} (h : HHr w v l) {N : Nat} (hk : Below N w w') (hN : w.heap.size ≤ N) : HHr w' v l := Holds.keep h fun k hk' => hk.block k (by omega)
theorem HHr.at {w : World} {ao : Option Addr} {n c : Nat} {l : List Hr} (h : HHr w (.slice ao n c) l) (h0 : 0 < l.length) : ∃ b off, ao = some ⟨b, off, none⟩ ∧ b < w.heap.size ∧
    ∀ k (hk : k < l.length), w.cell? ⟨b, off + k * 4, none⟩ = some (.int .i64 (l[k].X : Int)) ∧ w.cell? ⟨b, off + k * 4 + 1, none⟩ = some (.int .i64 (l[k].Y : Int)) ∧ w.cell? ⟨b, off + k * 4 + 2, none⟩ = some (.int .i64 (l[k].N : Int)) ∧ w.cell? ⟨b, off + k * 4 + 3, none⟩ = some (.int .i64 (l[k].R : Int)) := by
  obtain ⟨b, off, c', hv, hb, hc⟩ := Holds.at h (by rw [hrcells_length]; omega)
  cases hv
  refine ⟨b, off, rfl, hb, fun k hk => ?_⟩
  obtain ⟨h0, h1, h2, h3⟩ := hrcells_at l k hk
  have hlen := hrcells_length l
  have e : k * 4 = 4 * k := by omega
  rw [e]
  refine ⟨?_, ?_, ?_, ?_⟩
  · have := hc (4 * k) (by omega)
    rw [← h0, this, List.getElem?_eq_getElem]
  · have := hc (4 * k + 1) (by omega)
    rw [← h1, Nat.add_assoc, this, List.getElem?_eq_getElem]
  · have := hc (4 * k + 2) (by omega)
    rw [← h2, Nat.add_assoc, this, List.getElem?_eq_getElem]
  · have := hc (4 * k + 3) (by omega)
    rw [← h3, Nat.add_assoc, this, List.getElem?_eq_getElem]
/-- a run in a box of the reference's -/
def Gbx (u : World) (B : Nat) (r : Hr) : Prop := u.heap[B]? = some (.cells #[.int .i64 (r.X : Int), .int .i64 (r.Y : Int), .int .i64 (r.N : Int), .int .i64 (r.R : Int)] 53 (0, 0))
section
variable {u u' : World} {B : Nat} {r : Hr}
theorem Gbx.cells (h : Gbx u B r) : u.cell? ⟨B, 0, none⟩ = some (.int .i64 (r.X : Int)) ∧ u.cell? ⟨B, 1, none⟩ = some (.int .i64 (r.Y : Int)) ∧ u.cell? ⟨B, 2, none⟩ = some (.int .i64 (r.N : Int)) ∧ u.cell? ⟨B, 3, none⟩ = some (.int .i64 (r.R : Int)) := by
  refine ⟨?_, ?_, ?_, ?_⟩ <;> rw [Lib.cell_of_heap h] <;> rfl
theorem Gbx.frozen (h : Gbx u B r) (j : Nat) : u.frozen? ⟨B, j, none⟩ = false := by
  unfold World.frozen?
  rw [h]
  rfl
theorem Gbx.lt (h : Gbx u B r) : B < u.heap.size := (Array.getElem?_eq_some_iff.1 h).1
theorem Gbx.keep (h : Gbx u B r) {g : Option Nat} (hg : u.grownBy u' g) (hr : some B ≠ g) : Gbx u' B r := (hg.block B h.lt hr).trans h
theorem Gbx.low (h : Gbx u B r) (hg : Below u.heap.size u u') : Gbx u' B r := (hg.block B h.lt).trans h
theorem Gbx.new (w : World) (r : Hr) : Gbx (w.alloc (.cells #[.int .i64 (r.X : Int), .int .i64 (r.Y : Int), .int .i64 (r.N : Int), .int .i64 (r.R : Int)] 53)) w.heap.size r := _root_.Go.heap_alloc_new w _
end

set_option maxRecDepth 10000 in
theorem times8_f (x : List Int) (c : Int) (r : Nat) (v : Value) (w : World) (hx : HI w v x) (hxl : x.length ≤ 1048576) (hr : Hid (x.count c = r)) :
    Calls Try.prog 73 #[v, .int .i64 c] w fun e w' => e = .returned (.int .i64 (r : Int)) ∧ w = w' := by
  obtain ⟨xo, xc, rfl⟩ := Holds.form hx
  go_enter Try.func73, Try.ntmps73
  go_wp2
  go_loopw [5, 6] (fun nv iv wr => ∃ (i n : Nat), i ≤ x.length ∧ n ≤ i ∧ nv = .int .i64 n ∧ iv = .int .i64 i ∧ wr = w ∧ Hid (n + (x.drop i).count c = r)) (fun _ iv _ => x.length - (intOf iv).toNat)
  case atStart => exact ⟨0, 0, Nat.zero_le _, Nat.le_refl _, rfl, rfl, rfl, (by show _ = _; rw [← hr.out]; simp)⟩
  case round =>
    obtain ⟨i, n, hi, hni, rfl, rfl, rfl, hN⟩ := hrel
    by_cases hil : i < x.length
    · obtain ⟨b, off, rfl, _, hc⟩ := HI.at hx (by omega)
      have c0 := hc i hil
      obtain ⟨z, hz⟩ : ∃ z, x[i] = z := ⟨_, rfl⟩
      rw [hz] at c0
      have HN : Hid (n + ((x.drop (i + 1)).count c + if z == c then 1 else 0) = r) := (by
        show _ = _
        have := hN.out
        rw [List.drop_eq_getElem_cons hil, List.count_cons, hz] at this
        exact this)
      clear hc hz hN
      have i1 : 0 ≤ (i : Int) := by omega
      have i2 : (i : Int) < (x.length : Int) := by omega
      by_cases hzc : z = c
      · have HN3 : Hid (n + 1 + (x.drop (i + 1)).count c = r) := (by
          show _ = _
          have := HN.out
          rw [if_pos (by simpa using hzc)] at this
          omega)
        clear HN
        subst hzc
        go_wp2
        go_roundw
        case rel => exact ⟨i + 1, n + 1, by omega, by omega, by go_num, by go_num, trivial, HN3⟩
        case measure => simp [intOf]; omega
      · have e1 : (z == c) = false := by simpa using hzc
        have e2 : decide (z = c) = false := decide_eq_false hzc
        have HN3 : Hid (n + (x.drop (i + 1)).count c = r) := (by
          show _ = _
          have := HN.out
          rw [e1] at this
          simpa using this)
        clear HN hzc
        go_wp2
        go_roundw
        case rel => exact ⟨i + 1, n, by omega, by omega, rfl, by go_num, trivial, HN3⟩
        case measure => simp [intOf]; omega
    · obtain rfl : i = x.length := by omega
      have e : n = r := by
        have := hN.out
        rw [List.drop_of_length_le (Nat.le_refl _)] at this
        simpa using this
      subst e
      go_wp2
      go_ret
      exact ⟨rfl, rfl⟩
/-- what is left of the runs -/
def restR (x y : List Int) (i j : Nat) : List Hr := (List.range' j (y.length - j)).flatMap (rj x y i) ++ (List.range' (i + 1) (x.length - (i + 1))).flatMap (rowR x y)
def restRI (x y : List Int) (i : Nat) : List Hr := (List.range' i (x.length - i)).flatMap (rowR x y)
theorem restRI_zero (x y : List Int) : restRI x y 0 = runs x y := by simp [restRI, runs]
theorem restRI_step (x y : List Int) (i : Nat) (hi : i < x.length) : restRI x y i = restR x y i 0 := by
  unfold restRI restR
  rw [show x.length - i = (x.length - (i + 1)) + 1 by omega, List.range'_succ, List.flatMap_cons]
  rfl
theorem restRI_end (x y : List Int) (i : Nat) (hi : x.length ≤ i) : restRI x y i = [] := by
  unfold restRI
  rw [show x.length - i = 0 by omega]
  rfl
theorem restR_step (x y : List Int) (i j : Nat) (hj : j < y.length) : restR x y i j = rj x y i j ++ restR x y i (j + 1) := by
  unfold restR
  rw [show y.length - j = (y.length - (j + 1)) + 1 by omega, List.range'_succ, List.flatMap_cons, List.append_assoc]
theorem restR_end (x y : List Int) (i j : Nat) (hj : y.length ≤ j) : restR x y i j = restRI x y (i + 1) := by
  unfold restR restRI
  rw [show y.length - j = 0 by omega]
  rfl
theorem runs_length (x y : List Int) : (runs x y).length ≤ x.length * y.length := by
  unfold runs
  have h1 : ∀ i, (rowR x y i).length ≤ y.length := by
    intro i
    unfold rowR
    have : ∀ n s, ((List.range' s n).flatMap (rj x y i)).length ≤ n := by
      intro n
      induction n with
      | zero => intro s; simp
      | succ n ih =>
        intro s
        rw [List.range'_succ, List.flatMap_cons, List.length_append]
        have h2 := ih (s + 1)
        have h3 : (rj x y i s).length ≤ 1 := by unfold rj; split <;> simp
        omega
    exact this _ _
  have : ∀ n s, ((List.range' s n).flatMap (rowR x y)).length ≤ n * y.length := by
    intro n
    induction n with
    | zero => intro s; simp
    | succ n ih =>
      intro s
      rw [List.range'_succ, List.flatMap_cons, List.length_append, Nat.succ_mul]
      have h2 := ih (s + 1)
      have h3 := h1 s
      omega
  exact this _ _
end Go.Proofs.Ytmhanngimmjmoaa

/- The reference's Runs, walked. -/
namespace Go.Proofs.Ytmhanngimmjmoaa
open Go.RowKit
attribute [local simp] low_drew

set_option maxRecDepth 10000 in
set_option maxHeartbeats 8000000 in
theorem Runs_f (x y : List Int) (vx vy : Value) (w : World) (hx : HI w vx x) (hy : HI w vy y) (hxl : x.length ≤ 4096) (hyl : y.length ≤ 4096) (L : List Hr) (hL : Hid (runs x y = L)) :
    Calls Try.prog 54 #[vx, vy] w fun e w' => ∃ v', e = .returned v' ∧ HHr w' v' L ∧ Below w.heap.size w w' := by
  obtain ⟨xo, xc, rfl⟩ := Holds.form hx
  obtain ⟨yo, yc, rfl⟩ := Holds.form hy
  have hLl : L.length ≤ 16777216 := by
    rw [← hL.out]
    have h1 := runs_length x y
    have h2 : x.length * y.length ≤ 4096 * 4096 := Nat.mul_le_mul hxl hyl
    omega
  have HL0 : Hid ([] ++ restRI x y 0 = L) := (by rw [restRI_zero]; exact hL)
  clear hL
  go_enter Try.func54, Try.ntmps54
  go_wp2
  go_loopw [5, 6] (fun lv iv wr => ∃ (i : Nat) (Z : List Hr) (zo : Option Addr) (zc : Nat), i ≤ x.length ∧ lv = .slice zo Z.length zc ∧ iv = .int .i64 i ∧ wr.ownsRow w.heap.size 53 4 (.slice zo Z.length zc) Z.length (hrcells Z) ∧ Below w.heap.size w wr ∧ Hid (Z ++ restRI x y i = L)) (fun _ iv _ => x.length - (intOf iv).toNat)
  case atStart => exact ⟨0, [], none, 0, Nat.zero_le _, rfl, rfl, World.ownsRow_nil _ _ _ _, Below.refl _ _, HL0⟩
  case round =>
    clear HL0
    obtain ⟨i, Z, zo, zc, hi, rfl, rfl, hO, hB, HZ⟩ := hrel
    by_cases hil : i < x.length
    · have HZ2 : Hid (Z ++ restR x y i 0 = L) := (by rw [← restRI_step x y i hil]; exact HZ)
      have hi1 : (i : Int) < (x.length : Int) := by omega
      clear HZ
      go_wp2
      go_loopw [5, 7] (fun lv jv wr => ∃ (j : Nat) (Z : List Hr) (zo : Option Addr) (zc : Nat), j ≤ y.length ∧ lv = .slice zo Z.length zc ∧ jv = .int .i64 j ∧ wr.ownsRow w.heap.size 53 4 (.slice zo Z.length zc) Z.length (hrcells Z) ∧ Below w.heap.size w wr ∧ Hid (Z ++ restR x y i j = L)) (fun _ jv _ => y.length - (intOf jv).toNat)
      case atStart => exact ⟨0, Z, zo, zc, Nat.zero_le _, rfl, rfl, hO, hB, HZ2⟩
      case round =>
        clear HZ2 hO hB
        obtain ⟨j, Z, zo, zc, hj, rfl, rfl, hO, hB, HZ⟩ := hrel
        by_cases hjl : j < y.length
        · have HZ2 : Hid (Z ++ (rj x y i j ++ restR x y i (j + 1)) = L) := (by rw [← restR_step x y i j hjl]; exact HZ)
          clear HZ
          obtain ⟨q, hq⟩ : ∃ q, decide (¬ (x[i]? = y[j]? ∧ ¬ (0 < i ∧ 0 < j ∧ x[i - 1]? = y[j - 1]?))) = q := ⟨_, rfl⟩
          have HQ : Hid (decide (¬ (x[i]? = y[j]? ∧ ¬ (0 < i ∧ 0 < j ∧ x[i - 1]? = y[j - 1]?))) = q) := hq
          clear hq
          have i1 : 0 ≤ (i : Int) := by omega
          have j1 : 0 ≤ (j : Int) := by omega
          have j2 : (j : Int) < (y.length : Int) := by omega
          go_wp2_with fail
          go_cut [50] from 15 to 109 (fun z wz => z = .bool q ∧ ∃ m, wz = wr.drewN m)
          case first =>
            obtain ⟨xb, xf, rfl, _, hcx⟩ := HI.at (HI.keep hx hB (Nat.le_refl _)) (by omega)
            obtain ⟨yb, yf, rfl, _, hcy⟩ := HI.at (HI.keep hy hB (Nat.le_refl _)) (by omega)
            have x0 := hcx i (by omega)
            have y0 := hcy j (by omega)
            obtain ⟨zx, hzx⟩ : ∃ z, x[i] = z := ⟨_, rfl⟩
            obtain ⟨zy, hzy⟩ : ∃ z, y[j] = z := ⟨_, rfl⟩
            rw [hzx] at x0
            rw [hzy] at y0
            rw [List.getElem?_eq_getElem hil, List.getElem?_eq_getElem hjl, hzx, hzy] at HQ
            by_cases hz : zx = zy
            · have e1 : (zx != zy) = false := by simp [hz]
              by_cases hi0 : 0 < i
              · have e2 : decide ((0 : Int) < (i : Int)) = true := decide_eq_true (by omega)
                by_cases hj0 : 0 < j
                · have e3 : decide ((0 : Int) < (j : Int)) = true := decide_eq_true (by omega)
                  obtain ⟨px, rfl⟩ : ∃ p, i = p + 1 := ⟨i - 1, by omega⟩
                  obtain ⟨py, rfl⟩ : ∃ p, j = p + 1 := ⟨j - 1, by omega⟩
                  have x1 := hcx px (by omega)
                  have y1 := hcy py (by omega)
                  obtain ⟨tx, htx⟩ : ∃ z, x[px] = z := ⟨_, rfl⟩
                  obtain ⟨ty, hty⟩ : ∃ z, y[py] = z := ⟨_, rfl⟩
                  rw [htx] at x1
                  rw [hty] at y1
                  have e4 : (tx == ty) = q := by
                    rw [← HQ.out, Nat.add_sub_cancel, Nat.add_sub_cancel, List.getElem?_eq_getElem (by omega), List.getElem?_eq_getElem (by omega), htx, hty]
                    by_cases ht : tx = ty <;> simp [hz, ht]
                  have n1 : IntKind.i64.wrap ((px : Int) + 1 - 1) = (px : Int) := by rw [IntKind.wrap_i64]; omega
                  have n2 : IntKind.i64.wrap ((py : Int) + 1 - 1) = (py : Int) := by rw [IntKind.wrap_i64]; omega
                  have n3 : IntKind.i64.wrap (px : Int) = (px : Int) := by rw [IntKind.wrap_i64]; omega
                  have n4 : IntKind.i64.wrap (py : Int) = (py : Int) := by rw [IntKind.wrap_i64]; omega
                  have n5 : (px : Int) + 1 - 1 = (px : Int) := by omega
                  have n6 : (py : Int) + 1 - 1 = (py : Int) := by omega
                  have g1 : (0 : Int) < (px : Int) + 1 := by omega
                  have g2 : (0 : Int) < (py : Int) + 1 := by omega
                  have g3 : 0 ≤ (px : Int) := by omega
                  have g4 : (px : Int) < (x.length : Int) := by omega
                  have g5 : 0 ≤ (py : Int) := by omega
                  have g6 : (py : Int) < (y.length : Int) := by omega
                  have g7 : 0 ≤ (px : Int) + 1 := by omega
                  have g8 : (px : Int) + 1 < (x.length : Int) := by omega
                  have g9 : 0 ≤ (py : Int) + 1 := by omega
                  have g10 : (py : Int) + 1 < (y.length : Int) := by omega
                  clear hcx hcy hzx hzy htx hty HQ HZ2 hz
                  go_big_quiet (fail)
                  go_wp2
                  go_meet
                  case rel => exact ⟨rfl, _, rfl⟩
                · have e3 : decide ((0 : Int) < (j : Int)) = false := decide_eq_false (by omega)
                  have e3' : decide (0 < j) = false := decide_eq_false hj0
                  obtain rfl : q = false := by rw [← HQ.out]; simp [hz, hj0]
                  clear hcx hcy hzx hzy HQ HZ2 hz
                  go_big_quiet (fail)
                  go_wp2
                  go_meet
                  case rel => exact ⟨rfl, _, rfl⟩
              · have e2 : decide ((0 : Int) < (i : Int)) = false := decide_eq_false (by omega)
                have e2' : decide (0 < i) = false := decide_eq_false hi0
                obtain rfl : q = false := by rw [← HQ.out]; simp [hz, hi0]
                clear hcx hcy hzx hzy HQ HZ2 hz
                go_big_quiet (fail)
                go_wp2
                go_meet
                case rel => exact ⟨rfl, _, rfl⟩
            · have e1 : (zx != zy) = true := by simp [hz]
              obtain rfl : q = true := by rw [← HQ.out]; simp [hz]
              clear hcx hcy hzx hzy HQ HZ2 hz
              go_big_quiet (fail)
              go_wp2
              go_meet
              case rel => exact ⟨rfl, _, rfl⟩
          case rest =>
            obtain ⟨rfl, mq, rfl⟩ := hcut
            have hBq := Below.dN hB mq
            have hOq : (wr.drewN mq).ownsRow w.heap.size 53 4 (.slice zo Z.length zc) Z.length (hrcells Z) := owns_keep hO (Below.dN (Below.refl _ wr) mq)
            clear hB hO
            generalize wr.drewN mq = Wq at hBq hOq ⊢
            cases q with
            | true =>
              have hnr := of_decide_eq_true HQ.out
              have HZ3 : Hid (Z ++ restR x y i (j + 1) = L) := (by
                show _ = _
                rw [← HZ2.out, rj, if_neg hnr, List.nil_append])
              clear HZ2 HQ hnr
              go_wp2
              go_roundw
              case rel => exact ⟨j + 1, Z, zo, zc, by omega, rfl, by go_num, hOq, hBq, HZ3⟩
              case measure => simp [intOf]; omega
            | false =>
              have hnr := of_decide_eq_false HQ.out
              obtain ⟨T, hT⟩ : ∃ T, tl x y i j = T := ⟨_, rfl⟩
              have HZ3 : Hid (Z ++ (⟨i, j, T, rar x i T⟩ :: restR x y i (j + 1)) = L) := (by
                show _ = _
                have := HZ2.out
                rw [rj, if_pos (Decidable.not_not.1 hnr), hT] at this
                exact this)
              have HT : Hid (0 + tl x y (i + 0) (j + 0) = T) := (by show _ = _; simpa using hT)
              have hTl := tl_le x y i j
              rw [hT] at hTl
              clear HZ2 HQ hnr hT
              have hG0 := Gbx.new Wq ⟨i, j, 0, x.length⟩
              have hs0 := hBq.size
              have hBa : Below w.heap.size w (Wq.alloc (.cells #[.int .i64 (i : Int), .int .i64 (j : Int), .int .i64 ((0 : Nat) : Int), .int .i64 (x.length : Int)] 53)) := hBq.alloc hs0 _
              have hOa := hOq.alloc (.cells #[.int .i64 (i : Int), .int .i64 (j : Int), .int .i64 ((0 : Nat) : Int), .int .i64 (x.length : Int)] 53)
              obtain ⟨Br, hBr⟩ : ∃ Br, Wq.heap.size = Br := ⟨_, rfl⟩
              have hob : Hid (∀ ad : Addr, zo = some ad → ad.block < Br) := (by
                intro ad e
                rcases hOq.2 with ⟨h, _⟩ | ⟨g', cap', cur, h, _, hcur, _⟩
                · injection h with h1
                  rw [h1] at e
                  cases e
                · injection h with h1
                  rw [h1] at e
                  cases e
                  rw [← hBr]
                  exact (Array.getElem?_eq_some_iff.1 hcur).1)
              rw [hBr] at hG0
              have hwB : w.heap.size ≤ Br := by omega
              clear hOq hBq
              go_wp2
              clear hBr hs0
              go_loopw [] (fun wz => ∃ n : Nat, n ≤ T ∧ wz.ownsRow w.heap.size 53 4 (.slice zo Z.length zc) Z.length (hrcells Z) ∧ Below w.heap.size w wz ∧ Gbx wz Br ⟨i, j, n, rar x i n⟩ ∧ Hid (n + tl x y (i + n) (j + n) = T)) (fun wz => T - (intOf ((wz.cell? ⟨Br, 2, none⟩).getD undef)).toNat)
              case atStart => exact ⟨0, Nat.zero_le _, hOa, hBa, hG0, HT⟩
              case round =>
                clear hOa hBa hG0 HT
                obtain ⟨n, hn, hO, hB, hG, HT⟩ := hrel
                obtain ⟨c0, c1, c2, c3⟩ := hG.cells
                obtain ⟨q, hq⟩ : ∃ q, decide (i + n < x.length ∧ j + n < y.length ∧ x[i + n]? = y[j + n]?) = q := ⟨_, rfl⟩
                have HQ : Hid (decide (i + n < x.length ∧ j + n < y.length ∧ x[i + n]? = y[j + n]?) = q) := hq
                clear hq
                obtain ⟨ii, hii⟩ : ∃ ii, i + n = ii := ⟨_, rfl⟩
                obtain ⟨jj, hjj⟩ : ∃ jj, j + n = jj := ⟨_, rfl⟩
                rw [hii, hjj] at HQ HT
                have n1 : (i : Int) + (n : Int) = (ii : Int) := by omega
                have n2 : (j : Int) + (n : Int) = (jj : Int) := by omega
                have n3 : IntKind.i64.wrap (ii : Int) = (ii : Int) := by rw [IntKind.wrap_i64]; omega
                have n4 : IntKind.i64.wrap (jj : Int) = (jj : Int) := by rw [IntKind.wrap_i64]; omega
                have m1 : 0 ≤ (ii : Int) := by omega
                have m2 : 0 ≤ (jj : Int) := by omega
                go_wp2_with fail
                go_cut [88] from 56 to 105 (fun z wz => z = .bool q ∧ ∃ m, wz = wr.drewN m)
                case first =>
                  by_cases h3 : ii < x.length
                  · have e7 : decide ((ii : Int) < (x.length : Int)) = true := decide_eq_true (by omega)
                    by_cases h4 : jj < y.length
                    · have e8 : decide ((jj : Int) < (y.length : Int)) = true := decide_eq_true (by omega)
                      obtain ⟨xb, xf, rfl, _, hcx⟩ := HI.at (HI.keep hx hB (Nat.le_refl _)) (by omega)
                      obtain ⟨yb, yf, rfl, _, hcy⟩ := HI.at (HI.keep hy hB (Nat.le_refl _)) (by omega)
                      have x0 := hcx ii (by omega)
                      have y0 := hcy jj (by omega)
                      obtain ⟨zx, hzx⟩ : ∃ z, x[ii] = z := ⟨_, rfl⟩
                      obtain ⟨zy, hzy⟩ : ∃ z, y[jj] = z := ⟨_, rfl⟩
                      rw [hzx] at x0
                      rw [hzy] at y0
                      have i2 : (ii : Int) < (x.length : Int) := by omega
                      have i3 : (jj : Int) < (y.length : Int) := by omega
                      have e9 : (zx == zy) = q := by
                        rw [← HQ.out, List.getElem?_eq_getElem h3, List.getElem?_eq_getElem h4, hzx, hzy]
                        by_cases q : zx = zy <;> simp [h3, h4, q]
                      clear hcx hcy hzx hzy HQ HZ3 HT
                      go_big_quiet (fail)
                      go_wp2
                      go_meet
                      case rel => exact ⟨rfl, _, rfl⟩
                    · have e8 : decide ((jj : Int) < (y.length : Int)) = false := decide_eq_false (by omega)
                      obtain rfl : q = false := by rw [← HQ.out]; simp [h4]
                      clear HQ HZ3 HT
                      go_big_quiet (fail)
                      go_wp2
                      go_meet
                      case rel => exact ⟨rfl, _, rfl⟩
                  · have e7 : decide ((ii : Int) < (x.length : Int)) = false := decide_eq_false (by omega)
                    obtain rfl : q = false := by rw [← HQ.out]; simp [h3]
                    clear HQ HZ3 HT
                    go_big_quiet (fail)
                    go_wp2
                    go_meet
                    case rel => exact ⟨rfl, _, rfl⟩
                case rest =>
                  obtain ⟨rfl, mq, rfl⟩ := hcut
                  have hBq := Below.dN hB mq
                  have hOq : (wr.drewN mq).ownsRow w.heap.size 53 4 (.slice zo Z.length zc) Z.length (hrcells Z) := owns_keep hO (Below.dN (Below.refl _ wr) mq)
                  have hGq : Gbx (wr.drewN mq) Br ⟨i, j, n, rar x i n⟩ := hG
                  have cw := c2
                  clear hB hO hG c0 c1 c2 c3
                  generalize wr.drewN mq = Wq at hBq hOq hGq ⊢
                  obtain ⟨c0, c1, c2, c3⟩ := hGq.cells
                  have fz := hGq.frozen
                  cases q with
                  | true =>
                    obtain ⟨h3, h4, h5⟩ := of_decide_eq_true HQ.out
                    obtain ⟨xb, xf, rfl, _, hcx⟩ := HI.at (HI.keep hx hBq (Nat.le_refl _)) (by omega)
                    have x0 := hcx ii (by omega)
                    obtain ⟨zx, hzx⟩ : ∃ z, x[ii] = z := ⟨_, rfl⟩
                    rw [hzx] at x0
                    obtain ⟨ct, hct⟩ : ∃ ct, x.count zx = ct := ⟨_, rfl⟩
                    have HCT : Hid (x.count zx = ct) := hct
                    have hcc : cnt x ii = ct := by rw [cnt_at (List.getElem?_eq_getElem h3), hzx, hct]
                    have hctl : ct ≤ x.length := by rw [← hct]; exact List.count_le_length
                    obtain ⟨ra, hra⟩ : ∃ ra, rar x i n = ra := ⟨_, rfl⟩
                    have hrn : rar x i (n + 1) = min ra ct := by rw [rar, hra, hii, hcc]
                    have hral : ra ≤ x.length := by
                      rw [← hra]
                      have : ∀ n, rar x i n ≤ x.length := by
                        intro n
                        induction n with
                        | zero => exact Nat.le_refl _
                        | succ n ih => rw [rar]; omega
                      exact this n
                    rw [hra] at c3 hGq
                    obtain ⟨mi, hmi⟩ : ∃ mi, min ra ct = mi := ⟨_, rfl⟩
                    have hmin : (if ct < ra then (ct : Int) else (ra : Int)) = (mi : Int) := by rw [← hmi]; split <;> omega
                    have HT2 : Hid (n + 1 + tl x y (i + (n + 1)) (j + (n + 1)) = T) := (by
                      show _ = _
                      have := HT.out
                      rw [tl_step x y ii jj, if_pos ⟨h3, h4, h5⟩] at this
                      rw [show i + (n + 1) = ii + 1 by omega, show j + (n + 1) = jj + 1 by omega]
                      omega)
                    have i2 : (ii : Int) < (x.length : Int) := by omega
                    have hx2 := HI.keep hx hBq (Nat.le_refl _)
                    clear hcx hzx hct hcc HQ HT hra
                    have hn1 : n + 1 ≤ T := by have := HT2.out; omega
                    have hb1 : Gbx (Wq.setCell ⟨Br, 3, none⟩ (.int .i64 (mi : Int))) Br ⟨i, j, n, mi⟩ := heap_setCell_same Wq Br 3 _ _ (.int .i64 (mi : Int)) hGq
                    have hb2 : Gbx ((Wq.setCell ⟨Br, 3, none⟩ (.int .i64 (mi : Int))).drew.setCell ⟨Br, 2, none⟩ (.int .i64 ((n + 1 : Nat) : Int))) Br ⟨i, j, n + 1, mi⟩ := heap_setCell_same _ Br 2 _ _ (.int .i64 ((n + 1 : Nat) : Int)) (show (Wq.setCell ⟨Br, 3, none⟩ (.int .i64 (mi : Int))).drew.heap[Br]? = _ from hb1)
                    have d2 : (Wq.setCell ⟨Br, 3, none⟩ (.int .i64 (mi : Int))).drew.cell? ⟨Br, 2, none⟩ = some (.int .i64 (n : Int)) := hb1.cells.2.2.1
                    have f2 : (Wq.setCell ⟨Br, 3, none⟩ (.int .i64 (mi : Int))).drew.frozen? ⟨Br, 2, none⟩ = false := hb1.frozen 2
                    have f3 := fz 3
                    have hgr : Wq.grownBy ((Wq.setCell ⟨Br, 3, none⟩ (.int .i64 (mi : Int))).drew.setCell ⟨Br, 2, none⟩ (.int .i64 ((n + 1 : Nat) : Int))) (some Br) := (grown_drewN (grown_set Wq Br 3 _) 1).trans (grown_set _ Br 2 _)
                    have hB2 := hBq.grown hgr hBq.size (fun k hk => by cases hk; exact hwB)
                    have hO2 : ((Wq.setCell ⟨Br, 3, none⟩ (.int .i64 (mi : Int))).drew.setCell ⟨Br, 2, none⟩ (.int .i64 ((n + 1 : Nat) : Int))).ownsRow w.heap.size 53 4 (.slice zo Z.length zc) Z.length (hrcells Z) := hOq.kept hgr (by
                      cases hzo : zo with
                      | none => exact .inl rfl
                      | some ad =>
                        have h9 := hob.out ad hzo
                        obtain ⟨ab1, ao1, as1⟩ := ad
                        right
                        intro e
                        simp only [Value.ownBlock] at e
                        injection e with e
                        simp only at h9
                        omega)
                    have hG2 : Gbx ((Wq.setCell ⟨Br, 3, none⟩ (.int .i64 (mi : Int))).drew.setCell ⟨Br, 2, none⟩ (.int .i64 ((n + 1 : Nat) : Int))) Br ⟨i, j, n + 1, rar x i (n + 1)⟩ := by rw [hrn, hmi]; exact hb2
                    have cm := hb2.cells.2.2.1
                    clear hb1 hb2 hgr hrn hmi hGq hOq fz
                    go_wp2_with fail
                    go_region_with (go_at_call 73; refine (times8_f x zx ct _ _ (by exact HI.keep hx2 (Below.dN (Below.refl _ Wq) 1) (Nat.le_refl _)) (by omega) HCT).mono ?_; rintro e wt ⟨rfl, rfl⟩)
                    all_goals clear c0 c1 c2 c3 x0 hx2 hmin
                    all_goals go_wp2
                    all_goals go_roundw
                    all_goals first | exact ⟨n + 1, hn1, hO2, hB2, hG2, HT2⟩ | (refine Nat.lt_of_le_of_lt (Nat.le_of_eq (congrArg (fun o => T - (intOf (Option.getD o undef)).toNat) cm)) ?_; rw [cw]; simp [intOf]; omega)
                  | false =>
                    have h3 := of_decide_eq_false HQ.out
                    obtain rfl : n = T := by
                      have := HT.out
                      rw [tl_step x y ii jj, if_neg h3] at this
                      omega
                    obtain ⟨ra, hra⟩ : ∃ ra, rar x i n = ra := ⟨_, rfl⟩
                    rw [hra] at c3 hGq HZ3
                    have hZl : Z.length < L.length := by rw [← HZ3.out]; simp
                    have hs9 := hBq.size
                    clear HQ HT h3 hGq fz hra cw n1 n2 n3 n4 m1 m2
                    go_wp2_with (at_builtin; refine wpList_append_h _ (by kernel_rfl) (.tmp 106) (.tmp 108) 87 53 (.agg #[.int .i64 0, .int .i64 0, .int .i64 0, .int .i64 0]) 4 32 rfl Try.underlying87 infoHr rfl (by decide) (by decide) w.heap.size (.slice zo Z.length zc) Z.length (hrcells Z) (by kernel_rfl) (hOq.alloc _) (.slice (some ⟨Wq.heap.size, 0, none⟩) 1 1) 1 (hrcells [⟨i, j, n, ra⟩]) (by kernel_rfl) (new_holds Wq _ _ 1 1 (by decide)) rfl (hrcells_one _) (by omega) (by simp; omega) ?_)
                    intro v3 w3 hown3 hgrow3
                    have hB3 : Below w.heap.size w w3 := (Below.alloc hBq hs9 _).grown hgrow3 (by simp; omega) (fun _ hj => owns_ge hOq hj)
                    rw [← hrcells_append] at hown3
                    obtain ⟨oo3, oc3, rfl⟩ := (holds_of hown3).form
                    have HZ4 : Hid ((Z ++ [⟨i, j, n, ra⟩]) ++ restR x y i (j + 1) = L) := (by show _ = _; rw [← HZ3.out]; simp)
                    clear hgrow3 HZ3 c0 c1 c2 c3 hOq hBq
                    go_wp2
                    go_roundw
                    case rel => exact ⟨j + 1, Z ++ [⟨i, j, n, ra⟩], oo3, oc3, by omega, by simp, by go_num, by simpa using hown3, hB3, HZ4⟩
                    case measure => simp [intOf]; omega
        · have HZ2 : Hid (Z ++ restRI x y (i + 1) = L) := (by rw [← restR_end x y i j (by omega)]; exact HZ)
          have hj' : ¬ (j : Int) < (y.length : Int) := by omega
          clear HZ
          go_wp2
          go_roundw
          case rel => exact ⟨i + 1, Z, zo, zc, by omega, rfl, by go_num, hO, hB, HZ2⟩
          case measure => simp [intOf]; omega
    · have e : Z = L := by
        rw [← HZ.out, restRI_end x y i (by omega), List.append_nil]
      subst e
      have hi' : ¬ (i : Int) < (x.length : Int) := by omega
      go_wp2
      go_ret
      exact ⟨_, rfl, holds_of hO, hB⟩
end Go.Proofs.Ytmhanngimmjmoaa

/- The reference's Best, walked. -/
namespace Go.Proofs.Ytmhanngimmjmoaa
open Go.RowKit

/-- the run to hold on to, out of all -/
def pickO : List Hr → Option Hr
  | [] => none
  | b :: l => some (pickL btR b l)
theorem best_pickO (x y : List Int) : best x y = pickO (runs x y) := by
  unfold best
  cases runs x y <;> rfl
/-- what Best answers, as a value -/
def bestV (o : Option Hr) : Value := .tuple #[.agg #[.int .i64 ((o.getD ⟨0, 0, 0, 0⟩).X : Int), .int .i64 ((o.getD ⟨0, 0, 0, 0⟩).Y : Int), .int .i64 ((o.getD ⟨0, 0, 0, 0⟩).N : Int), .int .i64 ((o.getD ⟨0, 0, 0, 0⟩).R : Int)], .bool o.isSome]

set_option maxRecDepth 10000 in
set_option maxHeartbeats 4000000 in
theorem rBest_f (x y : List Int) (vx vy : Value) (w : World) (hx : HI w vx x) (hy : HI w vy y) (hxl : x.length ≤ 4096) (hyl : y.length ≤ 4096) (o : Option Hr) (ho : Hid (best x y = o)) :
    Calls Try.prog 23 #[vx, vy] w fun e w' => e = .returned (bestV o) ∧ Below w.heap.size w w' := by
  obtain ⟨xo, xc, rfl⟩ := Holds.form hx
  obtain ⟨yo, yc, rfl⟩ := Holds.form hy
  obtain ⟨L, hL⟩ : ∃ L, runs x y = L := ⟨_, rfl⟩
  have HL : Hid (runs x y = L) := hL
  have hLl : L.length ≤ 16777216 := by
    rw [← hL]
    have h1 := runs_length x y
    have h2 : x.length * y.length ≤ 4096 * 4096 := Nat.mul_le_mul hxl hyl
    omega
  have HO : Hid (pickO L = o) := (by
    show _ = _
    rw [← ho.out, best_pickO, hL])
  have hB0 : Below w.heap.size w (w.alloc (.cells #[.int .i64 0, .int .i64 0, .int .i64 0, .int .i64 0] 53)) := (Below.refl _ w).alloc (Nat.le_refl _) _
  have hR0 : Gbx (w.alloc (.cells #[.int .i64 0, .int .i64 0, .int .i64 0, .int .i64 0] 53)) w.heap.size ⟨0, 0, 0, 0⟩ := Gbx.new w ⟨0, 0, 0, 0⟩
  clear hL ho
  go_enter Try.func23, Try.ntmps23
  go_wp2_with fail
  refine (Runs_f x y _ _ _ (HI.keep hx hB0 (Nat.le_refl _)) (HI.keep hy hB0 (Nat.le_refl _)) hxl hyl L HL).mono ?_
  rintro e w1 ⟨v1, rfl, hv1, hB1⟩
  obtain ⟨lo, lc, rfl⟩ := Holds.form hv1
  have hB01 := hB0.trans (hB1.mono (by simp))
  have hR1 := hR0.low hB1
  clear hB1 hB0 hR0 HL
  obtain ⟨n, hn⟩ : ∃ n, L.length = n := ⟨_, rfl⟩
  have HN : Hid (L.length = n) := hn
  rw [hn] at hLl ⊢
  have hv2 : HHr w1 (.slice lo n lc) L := by rw [hn] at hv1; exact hv1
  clear hv1 hn
  obtain ⟨c0, c1, c2, c3⟩ := hR1.cells
  have f0 := hR1.frozen
  have hr1 := hR1.lt
  cases hLL : L with
  | nil =>
    obtain rfl : n = 0 := by rw [← HN.out, hLL]; rfl
    obtain rfl : o = none := by rw [← HO.out, hLL]; rfl
    have s1 := heap_setCell_same w1 w.heap.size 0 _ _ (.int .i64 0) hR1
    have s2 := heap_setCell_same _ w.heap.size 1 _ _ (.int .i64 0) s1
    have s3 := heap_setCell_same _ w.heap.size 2 _ _ (.int .i64 0) s2
    have s4 := heap_setCell_same _ w.heap.size 3 _ _ (.int .i64 0) s3
    have hBf : Below w.heap.size w ((((w1.setCell ⟨w.heap.size, 0, none⟩ (.int .i64 0)).setCell ⟨w.heap.size, 1, none⟩ (.int .i64 0)).setCell ⟨w.heap.size, 2, none⟩ (.int .i64 0)).setCell ⟨w.heap.size, 3, none⟩ (.int .i64 0)) := (((hB01.setCell (p := ⟨w.heap.size, 0, none⟩) (Nat.le_refl _) _).setCell (p := ⟨w.heap.size, 1, none⟩) (Nat.le_refl _) _).setCell (p := ⟨w.heap.size, 2, none⟩) (Nat.le_refl _) _).setCell (p := ⟨w.heap.size, 3, none⟩) (Nat.le_refl _) _
    clear hv2 HN HO
    go_wp2
    exact bodyPost_ret (results_cell_tmp rfl _ _ w.heap.size 53 #[.int .i64 0, .int .i64 0, .int .i64 0, .int .i64 0] (0, 0) _ rfl s4 Try.underlying53 rfl (by kernel_rfl)) rfl ⟨rfl, hBf⟩
  | cons b0 l0 =>
    have hn0 : 0 < n := by rw [← HN.out, hLL]; simp
    have e0 : ((n : Int) == 0) = false := beq_eq_false_iff_ne.2 (by omega)
    obtain ⟨b, hb⟩ : ∃ b, pickL btR b0 l0 = b := ⟨_, rfl⟩
    obtain rfl : o = some b := by rw [← HO.out, hLL, ← hb]; rfl
    have HP : Hid (pickL btR b0 (L.drop 1) = b) := (by rw [hLL]; exact hb)
    obtain ⟨lb, lf, rfl, _, hcl⟩ := HHr.at hv2 (by rw [hLL]; simp)
    obtain ⟨a0, a1, a2, a3⟩ := hcl 0 (by rw [hLL]; simp)
    have e00 : L[0]'(by rw [hLL]; simp) = b0 := by simp [hLL]
    rw [e00] at a0 a1 a2 a3
    rw [Nat.zero_mul, Nat.add_zero] at a0 a1 a2 a3
    have i0 : (0 : Int) < (n : Int) := by omega
    have hGb := Gbx.new w1 b0
    have hLa : Below w1.heap.size w1 (w1.alloc (.cells #[.int .i64 (b0.X : Int), .int .i64 (b0.Y : Int), .int .i64 (b0.N : Int), .int .i64 (b0.R : Int)] 53)) := (Below.refl _ w1).alloc (Nat.le_refl _) _
    clear hcl HO hb hLL e00 c0 c1 c2 c3 f0
    go_wp2
    clear a0 a1 a2 a3
    go_loopw [8] (fun iv wr => ∃ (k : Nat) (c : Hr), 1 ≤ k ∧ k ≤ n ∧ iv = .int .i64 k ∧ Low w1 wr ∧ Gbx wr w1.heap.size c ∧ Hid (pickL btR c (L.drop k) = b)) (fun iv _ => n - (intOf iv).toNat)
    case atStart => exact ⟨1, b0, Nat.le_refl _, hn0, rfl, hLa, hGb, HP⟩
    case round =>
      clear hGb hLa HP
      obtain ⟨k, c, hk1, hk, rfl, hL, hC, HP⟩ := hrel
      have hsr := Below.size hL
      by_cases hkl : k < n
      · have hkL : k < L.length := by rw [HN.out]; exact hkl
        obtain ⟨_, _, hle, _, hcl⟩ := HHr.at (HHr.keep hv2 hL (Nat.le_refl _)) (by omega)
        cases hle
        obtain ⟨a0, a1, a2, a3⟩ := hcl k hkL
        obtain ⟨r, hr⟩ : ∃ r, L[k] = r := ⟨_, rfl⟩
        rw [hr] at a0 a1 a2 a3
        obtain ⟨q, hq⟩ : ∃ q, btR r c = q := ⟨_, rfl⟩
        have HP2 : Hid (pickL btR (if q then r else c) (L.drop (k + 1)) = b) := (by
          show _ = _
          have := HP.out
          rw [List.drop_eq_getElem_cons hkL, hr] at this
          rw [← this, ← hq]
          rfl)
        have hqd : (decide (r.R < c.R) || (decide (r.R = c.R) && decide (c.N < r.N))) = q := hq
        clear HP hcl hr hq
        obtain ⟨d0, d1, d2, d3⟩ := hC.cells
        have fz := hC.frozen
        have k0 : 0 ≤ (k : Int) := by omega
        have k2 : (k : Int) < (n : Int) := by omega
        go_wp2_with fail
        go_cut [52] from 19 to 56 (fun z wz => z = .bool q ∧ ∃ m, wz = wr.drewN m)
        case first =>
          by_cases h1 : r.R < c.R
          · have e1 : decide ((r.R : Int) < (c.R : Int)) = true := decide_eq_true (by omega)
            have e1' : (r.R : Int) < (c.R : Int) := by omega
            obtain rfl : q = true := by rw [← hqd]; simp [h1]
            clear hqd HP2
            go_big_quiet (fail)
            go_wp2
            go_meet
            case rel => exact ⟨rfl, _, rfl⟩
          · have e1 : decide ((r.R : Int) < (c.R : Int)) = false := decide_eq_false (by omega)
            have e1' : decide (r.R < c.R) = false := decide_eq_false h1
            by_cases h2 : r.R = c.R
            · have e2 : ((r.R : Int) == (c.R : Int)) = true := beq_iff_eq.2 (by omega)
              have e3 : decide ((c.N : Int) < (r.N : Int)) = q := by rw [← hqd]; by_cases h3 : c.N < r.N <;> simp [h2, h3]
              have e3' : decide (c.N < r.N) = q := by rw [← hqd]; by_cases h3 : c.N < r.N <;> simp [h2, h3]
              clear hqd HP2 h1
              rw [h2] at a3 e1 e1' e2
              clear h2
              go_big_quiet (fail)
              go_wp2
              go_meet
              case rel => exact ⟨rfl, _, rfl⟩
            · have e2 : ((r.R : Int) == (c.R : Int)) = false := beq_eq_false_iff_ne.2 (by omega)
              obtain rfl : q = false := by rw [← hqd]; simp [h1, h2]
              clear hqd HP2 h2 h1
              go_big_quiet (fail)
              go_wp2
              go_meet
              case rel => exact ⟨rfl, _, rfl⟩
        case rest =>
          obtain ⟨rfl, mq, rfl⟩ := hcut
          have hLq : Low w1 (wr.drewN mq) := Below.dN hL mq
          have hCq : Gbx (wr.drewN mq) w1.heap.size c := hC
          have b0 : (wr.drewN mq).cell? ⟨lb, lf + k * 4, none⟩ = some (.int .i64 (r.X : Int)) := a0
          have b1 : (wr.drewN mq).cell? ⟨lb, lf + k * 4 + 1, none⟩ = some (.int .i64 (r.Y : Int)) := a1
          have b2 : (wr.drewN mq).cell? ⟨lb, lf + k * 4 + 2, none⟩ = some (.int .i64 (r.N : Int)) := a2
          have b3 : (wr.drewN mq).cell? ⟨lb, lf + k * 4 + 3, none⟩ = some (.int .i64 (r.R : Int)) := a3
          clear hL hC a0 a1 a2 a3 d0 d1 d2 d3 fz hsr
          generalize wr.drewN mq = Wq at hLq hCq b0 b1 b2 b3 ⊢
          obtain ⟨d0, d1, d2, d3⟩ := hCq.cells
          have fz := hCq.frozen
          cases q with
          | true =>
            have s1 := heap_setCell_same Wq w1.heap.size 0 _ _ (.int .i64 (r.X : Int)) hCq
            have s2 := heap_setCell_same _ w1.heap.size 1 _ _ (.int .i64 (r.Y : Int)) s1
            have s3 := heap_setCell_same _ w1.heap.size 2 _ _ (.int .i64 (r.N : Int)) s2
            have s4 : Gbx ((((Wq.setCell ⟨w1.heap.size, 0, none⟩ (.int .i64 (r.X : Int))).setCell ⟨w1.heap.size, 1, none⟩ (.int .i64 (r.Y : Int))).setCell ⟨w1.heap.size, 2, none⟩ (.int .i64 (r.N : Int))).setCell ⟨w1.heap.size, 3, none⟩ (.int .i64 (r.R : Int))) w1.heap.size r := heap_setCell_same _ w1.heap.size 3 _ _ (.int .i64 (r.R : Int)) s3
            have hL5 : Low w1 ((((Wq.setCell ⟨w1.heap.size, 0, none⟩ (.int .i64 (r.X : Int))).setCell ⟨w1.heap.size, 1, none⟩ (.int .i64 (r.Y : Int))).setCell ⟨w1.heap.size, 2, none⟩ (.int .i64 (r.N : Int))).setCell ⟨w1.heap.size, 3, none⟩ (.int .i64 (r.R : Int))) := (((Below.setCell (p := ⟨w1.heap.size, 0, none⟩) hLq (Nat.le_refl _) _).setCell (p := ⟨w1.heap.size, 1, none⟩) (Nat.le_refl _) _).setCell (p := ⟨w1.heap.size, 2, none⟩) (Nat.le_refl _) _).setCell (p := ⟨w1.heap.size, 3, none⟩) (Nat.le_refl _) _
            clear hqd
            go_wp2
            go_roundw
            case rel => exact ⟨k + 1, r, by omega, by omega, by go_num, hL5, s4, HP2⟩
            case measure => simp [intOf]; omega
          | false =>
            clear hqd
            go_wp2
            go_roundw
            case rel => exact ⟨k + 1, c, by omega, by omega, by go_num, hLq, hCq, HP2⟩
            case measure => simp [intOf]; omega
      · have e : c = b := by
          have := HP.out
          rw [List.drop_of_length_le (by rw [HN.out]; omega)] at this
          exact this
        subst e
        have hk' : ¬ (k : Int) < (n : Int) := by omega
        have hR5 := hR1.low hL
        obtain ⟨c0, c1, c2, c3⟩ := hC.cells
        obtain ⟨d0, d1, d2, d3⟩ := hR5.cells
        have f0 := hR5.frozen
        have s1 := heap_setCell_same wr w.heap.size 0 _ _ (.int .i64 (c.X : Int)) hR5
        have s2 := heap_setCell_same _ w.heap.size 1 _ _ (.int .i64 (c.Y : Int)) s1
        have s3 := heap_setCell_same _ w.heap.size 2 _ _ (.int .i64 (c.N : Int)) s2
        have s4 := heap_setCell_same _ w.heap.size 3 _ _ (.int .i64 (c.R : Int)) s3
        have hBr := hB01.trans (Below.mono hL hB01.size)
        have hBf : Below w.heap.size w ((((wr.setCell ⟨w.heap.size, 0, none⟩ (.int .i64 (c.X : Int))).setCell ⟨w.heap.size, 1, none⟩ (.int .i64 (c.Y : Int))).setCell ⟨w.heap.size, 2, none⟩ (.int .i64 (c.N : Int))).setCell ⟨w.heap.size, 3, none⟩ (.int .i64 (c.R : Int))) := (((hBr.setCell (p := ⟨w.heap.size, 0, none⟩) (Nat.le_refl _) _).setCell (p := ⟨w.heap.size, 1, none⟩) (Nat.le_refl _) _).setCell (p := ⟨w.heap.size, 2, none⟩) (Nat.le_refl _) _).setCell (p := ⟨w.heap.size, 3, none⟩) (Nat.le_refl _) _
        go_wp2
        exact bodyPost_ret (results_cell_tmp rfl _ _ w.heap.size 53 #[.int .i64 (c.X : Int), .int .i64 (c.Y : Int), .int .i64 (c.N : Int), .int .i64 (c.R : Int)] (0, 0) _ rfl s4 Try.underlying53 rfl (by kernel_rfl)) rfl ⟨rfl, hBf⟩
end Go.Proofs.Ytmhanngimmjmoaa
