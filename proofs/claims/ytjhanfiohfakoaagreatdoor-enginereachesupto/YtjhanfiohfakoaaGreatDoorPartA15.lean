/-
  Texts that belong together, joined: HiPi, HiDf, SpCd, SpFd, SpGr, SpRg.
-/
import Derived.Test.YtjhanfiohfakoaaGreatDoorPartA11
import Derived.Test.YtjhanfiohfakoaaGreatDoorPartA12
import Derived.Test.YtjhanfiohfakoaaGreatDoorPartA14
import Derived.Test.YtjhanfiohfakoaaGreatDoorPartA9
import Derived.Test.YtjhanfiohfakoaaGreatDoorPartA7
import Derived.Laws.EntriesVeiled
import Derived.Test.YtjhanfiohfakoaaGreatDoorPartA6
import Derived.Test.YtjhanfiohfakoaaGreatDoorPartA5

/- The reference's piece and Diff of the layer histogram, walked. -/
set_option maxRecDepth 20000
namespace Go.Proofs.YtjhanfiohfakoaaGreatDoor
open Go.RowKit
attribute [local simp] low_drew

theorem exec_slB {u : World} {ao ao' : Option Addr} {n cap l h n' c' : Nat} (hr : ∀ u : World, (Instr.slice 35 (.slice ao n cap) (some (.int .i64 (l : Int))) (some (.int .i64 (h : Int))) none).run Tryz.prog u = .ok (.slice ao' n' c') u) {op : Oper} (x y z : Operand) (ho : op.op = .slice 35 x (some y) (some z) none) {ev : Operand → Value} (hx : ev x = .slice ao n cap) (hy : ev y = .int .i64 (l : Int)) (hz : ev z = .int .i64 (h : Int)) :
    (execOp ev op).run Tryz.prog u = .ok (.value (.slice ao' n' c')) u := by
  have h2 := run_sliceAt_slice (P := Tryz.prog) (w := u) 35 (.slice ao n cap) (some (.int .i64 (l : Int))) (some (.int .i64 (h : Int))) none (by kernel_rfl)
  simp only [execOp, ho, hx, hy, hz, Option.map_some, Option.map_none, Sem.run_bind, h2, hr u, Result.andThen_ok, Sem.run_pure]
theorem exec_st4 {u : World} {B : Nat} {r0 : Hr} (h : Gbx u B r0) {a b c d : Int} {op : Oper} (x l : Operand) (ho : op.op = .store 100 x l) {ev : Operand → Value} (hx : ev x = .pointer (some ⟨B, 0, none⟩)) (hl : ev l = .agg #[.int .i64 a, .int .i64 b, .int .i64 c, .int .i64 d]) :
    (execOp ev op).run Tryz.prog u = .ok .skip ((((u.setCell ⟨B, 0, none⟩ (.int .i64 a)).setCell ⟨B, 1, none⟩ (.int .i64 b)).setCell ⟨B, 2, none⟩ (.int .i64 c)).setCell ⟨B, 3, none⟩ (.int .i64 d)) := by
  obtain ⟨c0, c1, c2, c3⟩ := h.cells
  have fz := h.frozen
  simp only [execOp, ho, hx, hl]
  go_simp
theorem rbest_held {x y : List Int} {vx vy : Value} {W u : World} {o : Option Hr} {v : Value} (hx : HI u vx x) (hy : HI u vy y) (hxl : x.length ≤ 4096) (hyl : y.length ≤ 4096) (ho : Hid (best x y = o)) (hv : bestV o = v) (hL : Low W u) :
    Calls Tryz.prog 55 (#[vx, vy] ++ #[]) u fun e w' => ∃ v', e = .returned v' ∧ Low W w' ∧ (v' = v ∧ Below u.heap.size u w') := by
  refine (rBest_f x y vx vy u hx hy hxl hyl o ho).mono ?_
  rintro e w' ⟨rfl, hb⟩
  exact ⟨_, rfl, Below.trans hL (hb.mono (Below.size hL)), hv, hb⟩

theorem fp_snoc2 (a c k : Nat) : fp a c (k + 1) = fp a c k ++ [⟨(a + k : Nat), (c + k : Nat)⟩] := by
  induction k generalizing a c with
  | zero => rfl
  | succ k ih =>
    rw [fp, ih (a + 1) (c + 1), fp, List.cons_append, show a + 1 + k = a + (k + 1) by omega, show c + 1 + k = c + (k + 1) by omega]
/-- a call and something made: either may come first -/
theorem go_callVal {P : Program} {S : World → Prop} {md : Region.Mode} {ops : Array Oper} {Q : Exit → Act → World → Prop} {fuel : Nat} {listed : Array Bool} {A : Act} {w : World}
    (i d : Nat) (op : Oper) (j e : Nat) (oq : Oper) (hi : ops[i]? = some op) (hd : op.dst = some d) (hj : ops[j]? = some oq) (he : oq.dst = some e) (hr : Region.ready md ops listed = [i, j]) (hwt : Region.wanted op (yielded ops A.tmps) = true) (hwq : Region.wanted oq (yielded ops A.tmps) = true)
    (F : Nat) (x : Operand) (xs : Array Operand) (ts : Array TypeId) (ho : op.op = .call { callee := .value x, args := xs, argTypes := ts })
    (cap : Array Value) (hxv : A.eval x = .func (.func F) #[] cap) (args : Array Value) (hx : xs.map A.eval = args) (hen : ∀ args w, (callFunc F args).run P w = .ok (.enter F args) w) (R : Value → World → Prop)
    (hc : Calls P F (args ++ cap) w fun e w' => ∃ v, e = .returned v ∧ S w' ∧ R v w')
    (vq : Value) (wq : World) (hq : (execOp A.eval oq).run P w = .ok (.value vq) wq) (hS : S wq)
    (h : ∀ v w', S w' → R v w' → wpAnyH P md ops Q S fuel (listed.setIfInBounds i true) (A.put (some d) v) w')
    (h2 : wpAnyH P md ops Q S fuel (listed.setIfInBounds j true) (A.put (some e) vq) wq) :
    wpAnyH P md ops Q S (fuel + 1) listed A w := by
  refine wpAnyH_ready hr (by simp) (AllReadyH.cons hi (fun K hK => ?_) (AllReadyH.cons hj (fun K hK => ?_) AllReadyH.nil))
  · refine step_want hwt ?_
    unfold Oper.wp
    have e : (execOp A.eval op).run P w = .ok (.enter F (args ++ cap)) w := by
      have h1 := hen (args ++ cap) w
      simp only [execOp, ho, resolve, invoke]
      simp only [hxv, Deferred.ofValue, Sem.run_bind, Sem.run_pure, Result.andThen_ok, hx, Array.empty_append]
      exact h1
    rw [e, Oper.upon_enter]
    refine hc.mono ?_
    rintro e w' ⟨v, rfl, hb, hR⟩
    exact hK.out _ _ hb (fun hu => by rw [hd]; exact h v w' hu hR)
  · refine step_want hwq ?_
    unfold Oper.wp
    rw [hq, Oper.upon_value]
    exact hK.out _ _ hS (fun _ => by rw [he]; exact h2)

set_option maxRecDepth 10000 in
set_option maxHeartbeats 8000000 in
theorem rhpiece_f (x y : List Int) (W0 : World) (vx vy : Value) (hx : HI W0 vx x) (hy : HI W0 vy y) (hxl : x.length ≤ 4096) (hyl : y.length ≤ 4096) (f : Nat) : ∀ (w : World) (K : List Int) (_ : Ls W0 W0.heap.size x.length K w) (a b c d : Nat) (_ : a ≤ b) (_ : b ≤ x.length) (_ : c ≤ d) (_ : d ≤ y.length) (_ : b - a < f) (KF : List Int) (_ : Hid (wrk K (pcs (hmid x y) x y f a b c d) = KF)),
    Calls Tryz.prog 37 #[.slice (some ⟨W0.heap.size, 0, none⟩) x.length x.length, vx, vy, .agg #[.int .i64 (a : Int), .int .i64 (b : Int), .int .i64 (c : Int), .int .i64 (d : Int)]] w fun e w' => e = .returned (.tuple #[]) ∧ Ls W0 W0.heap.size x.length KF w' ∧ w.grownBy w' (some W0.heap.size) := by
  obtain ⟨xo, xc, rfl⟩ := Holds.form hx
  obtain ⟨yo, yc, rfl⟩ := Holds.form hy
  induction f with
  | zero => intro w K hS a b c d hab hb hcd hd hf; omega
  | succ f ih =>
    intro w K hS a b c d hab hb hcd hd hf KF hKF
    have hg := hS.lt.2
    obtain ⟨k, hk⟩ : ∃ k, k = tf x y a b c d := ⟨_, rfl⟩
    obtain ⟨m, hm⟩ : ∃ m, m = tb x y (a + k) b (c + k) d := ⟨_, rfl⟩
    have HKF : Hid (wrk (wrk K (fp a c k ++ bp b d m)) (if a + k < b - m ∧ c + k < d - m then hmid x y (pcs (hmid x y) x y f) (a + k) (b - m) (c + k) (d - m) else []) = KF) := (by
      show _ = _
      rw [← hKF.out, pcs, ends, ← hk, ← hm, wrk_append, wrk_append, wrk_append])
    have hkl := tf_le x y a b c d
    have hml := tb_le x y (a + k) b (c + k) d
    rw [← hk] at hkl
    rw [← hm] at hml
    have hQ0 := Pbox.new w a b c d
    have hB0 := (Below.refl w.heap.size w).alloc (Nat.le_refl _) (.cells #[.int .i64 (a : Int), .int .i64 (b : Int), .int .i64 (c : Int), .int .i64 (d : Int)] 75)
    have HB : Hid (k = tf x y a b c d ∧ m = tb x y (a + k) b (c + k) d) := ⟨hk, hm⟩
    clear hKF hk hm
    go_enter Tryz.func37, Tryz.ntmps37
    go_wp2_with fail
    refine (Trim_f x y W0 _ _ _ hx hy hxl hyl K (hS.keep hB0) a b c d hab hb hcd hd (by simp; omega)).mono ?_
    rintro e w1 ⟨k', m', hk', hm', rfl, hS1, hG1⟩
    obtain rfl : k' = k := by rw [hk', HB.out.1]
    obtain rfl : m' = m := by rw [hm', HB.out.2]
    have hQ1 := hQ0.keep hG1 (by simp; omega)
    have hG1' : w.grownBy w1 (some W0.heap.size) := (low_grown hB0 _).trans hG1
    clear hk' hm' HB hS hB0 hQ0 hG1
    obtain ⟨A, hA⟩ : ∃ A, a + k' = A := ⟨_, rfl⟩
    obtain ⟨C, hC⟩ : ∃ C, c + k' = C := ⟨_, rfl⟩
    obtain ⟨b1, hb1⟩ : ∃ B, b - m' = B := ⟨_, rfl⟩
    obtain ⟨d1, hd1⟩ : ∃ D, d - m' = D := ⟨_, rfl⟩
    obtain ⟨K1, hK1⟩ : ∃ K1, wrk K (fp a c k' ++ bp b d m') = K1 := ⟨_, rfl⟩
    rw [hK1] at hS1 HKF
    rw [hA, hC, hb1, hd1] at HKF ⊢
    have hAb : A ≤ b1 := by omega
    have hCd : C ≤ d1 := by omega
    have hbx : b1 ≤ x.length := by omega
    have hdy : d1 ≤ y.length := by omega
    have hf1 : b1 - A ≤ f := by omega
    clear hA hC hb1 hd1 hK1 hkl hml hab hb hcd hd hf
    obtain ⟨c0, c1, c2, c3⟩ := hQ1.cells
    have f0 := hQ1.frozen
    have hQ2 : Pbox ((((w1.setCell ⟨w.heap.size, 0, none⟩ (.int .i64 (A : Int))).setCell ⟨w.heap.size, 1, none⟩ (.int .i64 (b1 : Int))).setCell ⟨w.heap.size, 2, none⟩ (.int .i64 (C : Int))).setCell ⟨w.heap.size, 3, none⟩ (.int .i64 (d1 : Int))) w.heap.size A b1 C d1 := by
      have s1 := heap_setCell_same w1 w.heap.size 0 _ _ (.int .i64 (A : Int)) hQ1
      have s2 := heap_setCell_same _ w.heap.size 1 _ _ (.int .i64 (b1 : Int)) s1
      have s3 := heap_setCell_same _ w.heap.size 2 _ _ (.int .i64 (C : Int)) s2
      exact heap_setCell_same _ w.heap.size 3 _ _ (.int .i64 (d1 : Int)) s3
    have hgw := hS1.low.size
    have hS2 := ls_other (ls_other (ls_other (ls_other hS1 (g := w.heap.size) (by omega) (by omega) 0 (.int .i64 (A : Int))) (g := w.heap.size) (by omega) (by omega) 1 (.int .i64 (b1 : Int))) (g := w.heap.size) (by omega) (by omega) 2 (.int .i64 (C : Int))) (g := w.heap.size) (by omega) (by omega) 3 (.int .i64 (d1 : Int))
    have hG2 := grown_new (grown_new (grown_new (grown_new hG1' (B := w.heap.size) (by omega) 0 (.int .i64 (A : Int))) (B := w.heap.size) (by omega) 1 (.int .i64 (b1 : Int))) (B := w.heap.size) (by omega) 2 (.int .i64 (C : Int))) (B := w.heap.size) (by omega) 3 (.int .i64 (d1 : Int))
    obtain ⟨W2, hW2⟩ : ∃ W2, (((w1.setCell ⟨w.heap.size, 0, none⟩ (.int .i64 (A : Int))).setCell ⟨w.heap.size, 1, none⟩ (.int .i64 (b1 : Int))).setCell ⟨w.heap.size, 2, none⟩ (.int .i64 (C : Int))).setCell ⟨w.heap.size, 3, none⟩ (.int .i64 (d1 : Int)) = W2 := ⟨_, rfl⟩
    rw [hW2] at hQ2 hS2 hG2
    unfold pcV
    by_cases hm0 : A < b1 ∧ C < d1
    · have e1 : ((A : Int) == (b1 : Int)) = false := by simp; omega
      have e2 : ((C : Int) == (d1 : Int)) = false := by simp; omega
      have HK2 : Hid (wrk K1 (hmid x y (pcs (hmid x y) x y f) A b1 C d1) = KF) := (by
        show _ = _
        have := HKF.out
        rw [if_pos hm0] at this
        exact this)
      clear HKF
      obtain ⟨c0, c1, c2, c3⟩ := hQ2.cells
      obtain ⟨X, hX⟩ : ∃ X, sub x A b1 = X := ⟨_, rfl⟩
      obtain ⟨Y, hY⟩ : ∃ Y, sub y C d1 = Y := ⟨_, rfl⟩
      obtain ⟨nx, hnx⟩ : ∃ nx, b1 - A = nx := ⟨_, rfl⟩
      obtain ⟨ny, hny⟩ : ∃ ny, d1 - C = ny := ⟨_, rfl⟩
      have r1 := run_slB xo x.length xc A b1 hAb hbx (hold_cap hx)
      have r2 := run_slB yo y.length yc C d1 hCd hdy (hold_cap hy)
      have hXl : X.length = nx := by rw [← hX, sub_length x A b1 hbx, hnx]
      have hYl : Y.length = ny := by rw [← hY, sub_length y C d1 hdy, hny]
      rw [hnx] at r1
      rw [hny] at r2
      have hxs : ∀ u : World, Low W2 u → HI u (.slice (slF xo xc A) nx (xc - A)) X ∧ HI u (.slice (slF yo yc C) ny (yc - C)) Y := fun u hu => by
        have hlow : Below W0.heap.size W0 u := hS2.low.trans (Below.mono hu hS2.low.size)
        have h1 := hold_sub (HI.keep hx hlow (Nat.le_refl _)) hAb hbx
        have h2 := hold_sub (HI.keep hy hlow (Nat.le_refl _)) hCd hdy
        unfold HI
        rw [hXl, hYl]
        rw [hX, hnx] at h1
        rw [hY, hny] at h2
        exact ⟨h1, h2⟩
      have HX : Hid (X.length ≤ 4096 ∧ Y.length ≤ 4096) := (by refine ⟨?_, ?_⟩ <;> omega)
      obtain ⟨o, ho⟩ : ∃ o, best X Y = o := ⟨_, rfl⟩
      have HO : Hid (best X Y = o) := ho
      have HK4 : Hid (wrk K1 (hsel x y (pcs (hmid x y) x y f) A b1 C d1 o) = KF) := (by
        show _ = _
        have := HK2.out
        rw [hmid, hX, hY, ho] at this
        exact this)
      have HIn : Hid (∀ r, o = some r → 0 < r.N ∧ A + r.X + r.N ≤ b1 ∧ C + r.Y + r.N ≤ d1 ∧ r.R ≤ 4096) := (by
        intro r hr
        have hrun := (best_some (ho.trans hr)).1
        have h2 := run_in (x := x) (y := y) (a := A) (b := b1) (c := C) (d := d1) hbx hdy (by rw [hX, hY]; exact hrun)
        have h3 : r.R ≤ X.length := by
          rw [hrun.r]
          have : ∀ n, rar X r.X n ≤ X.length := by
            intro n
            induction n with
            | zero => exact Nat.le_refl _
            | succ n ih => rw [rar]; omega
          exact this _
        exact ⟨h2.1, h2.2.1, h2.2.2.1, by omega⟩)
      obtain ⟨r, hr⟩ : ∃ r, o.getD ⟨0, 0, 0, 0⟩ = r := ⟨_, rfl⟩
      obtain ⟨fl, hfl⟩ : ∃ fl, o.isSome = fl := ⟨_, rfl⟩
      have HE0 : bestV o = .tuple #[.agg #[.int .i64 (r.X : Int), .int .i64 (r.Y : Int), .int .i64 (r.N : Int), .int .i64 (r.R : Int)], .bool fl] := (by unfold bestV; rw [hr, hfl])
      have HRF : Hid (o.getD ⟨0, 0, 0, 0⟩ = r ∧ o.isSome = fl) := ⟨hr, hfl⟩
      clear hr hfl
      obtain ⟨rX, rY, rN, rR⟩ := r
      have HE : Hid (bestV o = .tuple #[.agg #[.int .i64 (rX : Int), .int .i64 (rY : Int), .int .i64 (rN : Int), .int .i64 (rR : Int)], .bool fl]) := HE0
      clear HE0
      generalize slF xo xc A = xo2 at r1 hxs
      generalize slF yo yc C = yo2 at r2 hxs
      generalize xc - A = xc2 at r1 hxs
      generalize yc - C = yc2 at r2 hxs
      clear hX hY hnx hny hXl hYl HK2 ho
      have hcs : ∀ u : World, Low W2 u → u.cell? ⟨w.heap.size, 0, none⟩ = some (.int .i64 (A : Int)) ∧ u.cell? ⟨w.heap.size, 1, none⟩ = some (.int .i64 (b1 : Int)) ∧ u.cell? ⟨w.heap.size, 2, none⟩ = some (.int .i64 (C : Int)) ∧ u.cell? ⟨w.heap.size, 3, none⟩ = some (.int .i64 (d1 : Int)) := fun u hu => (hQ2.low hu).cells
      go_wp2_with fail
      clear hW2 f0 c0 c1 c2 c3
      refine wp_region_noPanic ?_
      refine wp_region_held_drew (S := fun u => Low W2 u) (by kernel_rfl) (Below.dN (Below.refl _ W2) 1) (fun hHeld => ?_)
      refine go_take 0 31 _ (.slice xo x.length xc) rfl (by kernel_rfl) (by kernel_rfl) (by kernel_rfl) (by kernel_rfl) (fun _ _ _ h => h) (Or.inl ⟨by kernel_rfl, fun u hu => by kernel_rfl⟩) hHeld ?_
      simp only [Act.put, List.setIfInBounds_toArray, List.set_cons_zero, List.set_cons_succ]
      refine go_take 1 32 _ (.pointer (some ⟨w.heap.size, 0, none⟩)) rfl (by kernel_rfl) (by kernel_rfl) (by kernel_rfl) (by kernel_rfl) (fun _ _ _ h => h) (Or.inl ⟨by kernel_rfl, fun u hu => by kernel_rfl⟩) hHeld ?_
      simp only [Act.put, List.setIfInBounds_toArray, List.set_cons_zero, List.set_cons_succ]
      refine go_take 2 33 _ (.int .i64 (A : Int)) rfl (by kernel_rfl) (by kernel_rfl) (by kernel_rfl) (by kernel_rfl) (fun _ _ _ h => h) (Or.inl ⟨by kernel_rfl, fun u hu => load_int (hcs u hu).1 (.tmp 32) (by kernel_rfl) (by kernel_rfl)⟩) hHeld ?_
      simp only [Act.put, List.setIfInBounds_toArray, List.set_cons_zero, List.set_cons_succ]
      refine go_take 3 34 _ (.pointer (some ⟨w.heap.size, 1, none⟩)) rfl (by kernel_rfl) (by kernel_rfl) (by kernel_rfl) (by kernel_rfl) (fun _ _ _ h => h) (Or.inl ⟨by kernel_rfl, fun u hu => by kernel_rfl⟩) hHeld ?_
      simp only [Act.put, List.setIfInBounds_toArray, List.set_cons_zero, List.set_cons_succ]
      refine go_take 4 35 _ (.int .i64 (b1 : Int)) rfl (by kernel_rfl) (by kernel_rfl) (by kernel_rfl) (by kernel_rfl) (fun _ _ _ h => h) (Or.inl ⟨by kernel_rfl, fun u hu => load_int (hcs u hu).2.1 (.tmp 34) (by kernel_rfl) (by kernel_rfl)⟩) hHeld ?_
      simp only [Act.put, List.setIfInBounds_toArray, List.set_cons_zero, List.set_cons_succ]
      refine go_take 5 36 _ (.slice xo2 nx xc2) rfl (by kernel_rfl) (by kernel_rfl) (by kernel_rfl) (by kernel_rfl) (fun _ _ _ h => h) (Or.inl ⟨by kernel_rfl, fun u hu => exec_slB r1 (.tmp 31) (.tmp 33) (.tmp 35) (by kernel_rfl) (by kernel_rfl) (by kernel_rfl) (by kernel_rfl)⟩) hHeld ?_
      simp only [Act.put, List.setIfInBounds_toArray, List.set_cons_zero, List.set_cons_succ]
      refine go_take 6 37 _ (.slice yo y.length yc) rfl (by kernel_rfl) (by kernel_rfl) (by kernel_rfl) (by kernel_rfl) (fun _ _ _ h => h) (Or.inl ⟨by kernel_rfl, fun u hu => by kernel_rfl⟩) hHeld ?_
      simp only [Act.put, List.setIfInBounds_toArray, List.set_cons_zero, List.set_cons_succ]
      refine go_take 7 38 _ (.pointer (some ⟨w.heap.size, 2, none⟩)) rfl (by kernel_rfl) (by kernel_rfl) (by kernel_rfl) (by kernel_rfl) (fun _ _ _ h => h) (Or.inl ⟨by kernel_rfl, fun u hu => by kernel_rfl⟩) hHeld ?_
      simp only [Act.put, List.setIfInBounds_toArray, List.set_cons_zero, List.set_cons_succ]
      refine go_take 8 39 _ (.int .i64 (C : Int)) rfl (by kernel_rfl) (by kernel_rfl) (by kernel_rfl) (by kernel_rfl) (fun _ _ _ h => h) (Or.inl ⟨by kernel_rfl, fun u hu => load_int (hcs u hu).2.2.1 (.tmp 38) (by kernel_rfl) (by kernel_rfl)⟩) hHeld ?_
      simp only [Act.put, List.setIfInBounds_toArray, List.set_cons_zero, List.set_cons_succ]
      refine go_take 9 40 _ (.pointer (some ⟨w.heap.size, 3, none⟩)) rfl (by kernel_rfl) (by kernel_rfl) (by kernel_rfl) (by kernel_rfl) (fun _ _ _ h => h) (Or.inl ⟨by kernel_rfl, fun u hu => by kernel_rfl⟩) hHeld ?_
      simp only [Act.put, List.setIfInBounds_toArray, List.set_cons_zero, List.set_cons_succ]
      refine go_take 10 41 _ (.int .i64 (d1 : Int)) rfl (by kernel_rfl) (by kernel_rfl) (by kernel_rfl) (by kernel_rfl) (fun _ _ _ h => h) (Or.inl ⟨by kernel_rfl, fun u hu => load_int (hcs u hu).2.2.2 (.tmp 40) (by kernel_rfl) (by kernel_rfl)⟩) hHeld ?_
      simp only [Act.put, List.setIfInBounds_toArray, List.set_cons_zero, List.set_cons_succ]
      refine go_take 11 42 _ (.slice yo2 ny yc2) rfl (by kernel_rfl) (by kernel_rfl) (by kernel_rfl) (by kernel_rfl) (fun _ _ _ h => h) (Or.inl ⟨by kernel_rfl, fun u hu => exec_slB r2 (.tmp 37) (.tmp 39) (.tmp 41) (by kernel_rfl) (by kernel_rfl) (by kernel_rfl) (by kernel_rfl)⟩) hHeld ?_
      simp only [Act.put, List.setIfInBounds_toArray, List.set_cons_zero, List.set_cons_succ]
      refine go_callVal 12 43 _ 16 8 _ rfl (by kernel_rfl) rfl (by kernel_rfl) (by kernel_rfl) (by kernel_rfl) (by kernel_rfl) 55 (.func 55) #[.tmp 36, .tmp 42] #[35, 35] (by kernel_rfl) #[] (by kernel_rfl) #[.slice xo2 nx xc2, .slice yo2 ny yc2] (by kernel_rfl) (enters_of Tryz.func55 (by kernel_rfl) rfl) _ (rbest_held (hxs _ hHeld).1 (hxs _ hHeld).2 HX.out.1 HX.out.2 HO HE.out hHeld) (.pointer (some ⟨W2.drew.heap.size, 0, none⟩)) (W2.drew.alloc (.cells #[.int .i64 0, .int .i64 0, .int .i64 0, .int .i64 0] 100)) (by kernel_rfl) (Below.alloc hHeld (Below.size hHeld) _) ?_ ?_
      · rintro _ u12 hHeld ⟨rfl, hcl⟩
        simp only [Act.put, List.setIfInBounds_toArray, List.set_cons_zero, List.set_cons_succ]
        refine go_take 13 30 _ (.tuple #[.agg #[.int .i64 (rX : Int), .int .i64 (rY : Int), .int .i64 (rN : Int), .int .i64 (rR : Int)], .bool fl]) rfl (by kernel_rfl) (by kernel_rfl) (by kernel_rfl) (by kernel_rfl) (fun _ _ _ h => h) (Or.inl ⟨by kernel_rfl, fun u hu => by kernel_rfl⟩) hHeld ?_
        simp only [Act.put, List.setIfInBounds_toArray, List.set_cons_zero, List.set_cons_succ]
        refine go_take 14 44 _ (.agg #[.int .i64 (rX : Int), .int .i64 (rY : Int), .int .i64 (rN : Int), .int .i64 (rR : Int)]) rfl (by kernel_rfl) (by kernel_rfl) (by kernel_rfl) (by kernel_rfl) (fun _ _ _ h => h) (Or.inl ⟨by kernel_rfl, fun u hu => by kernel_rfl⟩) hHeld ?_
        simp only [Act.put, List.setIfInBounds_toArray, List.set_cons_zero, List.set_cons_succ]
        refine go_take 15 45 _ (.bool fl) rfl (by kernel_rfl) (by kernel_rfl) (by kernel_rfl) (by kernel_rfl) (fun _ _ _ h => h) (Or.inl ⟨by kernel_rfl, fun u hu => by kernel_rfl⟩) hHeld ?_
        simp only [Act.put, List.setIfInBounds_toArray, List.set_cons_zero, List.set_cons_succ]
        refine go_val 16 8 _ rfl (by kernel_rfl) (by kernel_rfl) (by kernel_rfl) (.pointer (some ⟨u12.heap.size, 0, none⟩)) (u12.alloc (.cells #[.int .i64 0, .int .i64 0, .int .i64 0, .int .i64 0] 100)) (by kernel_rfl) (Below.alloc hHeld (Below.size hHeld) _) ?_
        simp only [Act.put, List.setIfInBounds_toArray, List.set_cons_zero, List.set_cons_succ]
        have hG0 : Gbx (u12.alloc (.cells #[.int .i64 0, .int .i64 0, .int .i64 0, .int .i64 0] 100)) u12.heap.size ⟨0, 0, 0, 0⟩ := Gbx.new u12 ⟨0, 0, 0, 0⟩
        obtain ⟨Br, hBr⟩ : ∃ Br, u12.heap.size = Br := ⟨_, rfl⟩
        have hBl : W2.heap.size ≤ Br := by rw [← hBr]; exact Below.size hHeld
        replace hHeld : Low W2 (u12.alloc (.cells #[.int .i64 0, .int .i64 0, .int .i64 0, .int .i64 0] 100)) := Below.alloc hHeld (Below.size hHeld) _
        clear hcl
        generalize u12.alloc (.cells #[.int .i64 0, .int .i64 0, .int .i64 0, .int .i64 0] 100) = u13 at hG0 hHeld ⊢
        rw [hBr] at hG0 ⊢
        have hL4 : Low W2 ((((u13.setCell ⟨Br, 0, none⟩ (.int .i64 (rX : Int))).setCell ⟨Br, 1, none⟩ (.int .i64 (rY : Int))).setCell ⟨Br, 2, none⟩ (.int .i64 (rN : Int))).setCell ⟨Br, 3, none⟩ (.int .i64 (rR : Int))) := (((Below.setCell (p := ⟨Br, 0, none⟩) hHeld hBl _).setCell (p := ⟨Br, 1, none⟩) hBl _).setCell (p := ⟨Br, 2, none⟩) hBl _).setCell (p := ⟨Br, 3, none⟩) hBl _
        have hG4 : Gbx ((((u13.setCell ⟨Br, 0, none⟩ (.int .i64 (rX : Int))).setCell ⟨Br, 1, none⟩ (.int .i64 (rY : Int))).setCell ⟨Br, 2, none⟩ (.int .i64 (rN : Int))).setCell ⟨Br, 3, none⟩ (.int .i64 (rR : Int))) Br ⟨rX, rY, rN, rR⟩ := heap_setCell_same _ Br 3 _ _ _ (heap_setCell_same _ Br 2 _ _ _ (heap_setCell_same _ Br 1 _ _ _ (heap_setCell_same u13 Br 0 _ _ _ hG0)))
        refine go_skip 17 _ rfl (by kernel_rfl) (by kernel_rfl) (by kernel_rfl) ((((u13.setCell ⟨Br, 0, none⟩ (.int .i64 (rX : Int))).setCell ⟨Br, 1, none⟩ (.int .i64 (rY : Int))).setCell ⟨Br, 2, none⟩ (.int .i64 (rN : Int))).setCell ⟨Br, 3, none⟩ (.int .i64 (rR : Int))) (exec_st4 hG0 (.tmp 8) (.tmp 44) (by kernel_rfl) (by kernel_rfl) (by kernel_rfl)) (hL4) ?_
        refine go_take 18 9 _ (.bool fl) rfl (by kernel_rfl) (by kernel_rfl) (by kernel_rfl) (by kernel_rfl) (fun _ _ _ h => h) (Or.inl ⟨by kernel_rfl, fun u hu => by kernel_rfl⟩) hL4 ?_
        simp only [Act.put, List.setIfInBounds_toArray, List.set_cons_zero, List.set_cons_succ]
        refine wpAnyH_done (by kernel_rfl) ?_ _
        refine NoPanic.normal ?_
        have hgB : W0.heap.size < Br := by have := hS2.lt; omega
        have hwB : w.heap.size < Br := Nat.lt_of_lt_of_le (Array.getElem?_eq_some_iff.1 hQ2).1 hBl
        have hQ3 := hQ2.low hL4
        have hS3 := hS2.keep hL4
        have hG3 := hG2.trans (low_grown hL4 (some W0.heap.size))
        clear hcs hxs r1 r2 hHeld hG0 hBr hQ2 hS2 hG2 HE HO HX hS1 hG1' hQ1 hL4
        generalize (((u13.setCell ⟨Br, 0, none⟩ (.int .i64 (rX : Int))).setCell ⟨Br, 1, none⟩ (.int .i64 (rY : Int))).setCell ⟨Br, 2, none⟩ (.int .i64 (rN : Int))).setCell ⟨Br, 3, none⟩ (.int .i64 (rR : Int)) = W4 at hG4 hQ3 hS3 hG3 ⊢
        obtain ⟨c0, c1, c2, c3⟩ := hQ3.cells
        obtain ⟨g0, g1, g2, g3⟩ := hG4.cells
        cases o with
        | none =>
          obtain rfl : false = fl := HRF.out.2
          have e : K1 = KF := HK4.out
          subst e
          go_wp2
          (try simp only [Exit.inBlock, Exit.then])
          refine bodyPost_ret (results_none rfl _ _ _) rfl ?_
          exact ⟨rfl, hS3, hG3⟩
        | some r =>
          obtain rfl : true = fl := HRF.out.2
          obtain rfl : r = ⟨rX, rY, rN, rR⟩ := HRF.out.1
          obtain ⟨q1, q2, q3, q4⟩ := HIn.out _ rfl
          simp only at q1 q2 q3 q4 g0 g1 g2 g3
          clear HRF HIn
          by_cases h64 : 64 < rR
          · have e3 : decide ((64 : Int) < (rR : Int)) = true := decide_eq_true (by omega)
            have e4 : decide ((rR : Int) > 64) = true := e3
            have HK5 : Hid (wrk K1 (lp A C (kp 0 (sub x A b1) (sub y C d1))) = KF) := (by
              show _ = _
              have := HK4.out
              rw [hsel, if_pos h64] at this
              exact this)
            clear HK4 h64
            go_wp2_with fail
            refine (Least_f x y W0 _ _ _ hx hy hxl hyl K1 hS3 A b1 C d1 hAb hbx hCd hdy KF HK5).mono ?_
            rintro e w4 ⟨rfl, hS4, hG5⟩
            have hG6 := hG3.trans hG5
            go_wp2
            (try simp only [Exit.inBlock, Exit.then])
            refine bodyPost_ret (results_none rfl _ _ _) rfl ?_
            exact ⟨rfl, hS4, hG6⟩
          · have e3 : decide ((64 : Int) < (rR : Int)) = false := decide_eq_false (by omega)
            have e4 : decide ((rR : Int) > 64) = false := e3
            obtain ⟨u, hu⟩ : ∃ u, A + rX = u := ⟨_, rfl⟩
            obtain ⟨v, hv⟩ : ∃ v, C + rY = v := ⟨_, rfl⟩
            obtain ⟨u2, hu2⟩ : ∃ u2, u + rN = u2 := ⟨_, rfl⟩
            obtain ⟨v2, hv2⟩ : ∃ v2, v + rN = v2 := ⟨_, rfl⟩
            have HK5 : Hid (wrk (wrk (wrk K1 (fp u v rN)) (pcs (hmid x y) x y f A u C v)) (pcs (hmid x y) x y f u2 b1 v2 d1) = KF) := (by
              show _ = _
              have := HK4.out
              rw [hsel, if_neg h64, wrk_append, wrk_append] at this
              simp only [hu, hv, hu2, hv2] at this
              exact this)
            rw [hu, hu2] at q2
            rw [hv, hv2] at q3
            have hAu : A ≤ u := by omega
            have hCv : C ≤ v := by omega
            have huu : u < u2 := by omega
            have hvv : v < v2 := by omega
            have n1 : (A : Int) + (rX : Int) = (u : Int) := by omega
            have n2 : (C : Int) + (rY : Int) = (v : Int) := by omega
            have n3 : IntKind.i64.wrap (u : Int) = (u : Int) := by rw [IntKind.wrap_i64]; omega
            have n4 : IntKind.i64.wrap (v : Int) = (v : Int) := by rw [IntKind.wrap_i64]; omega
            have m1 : (u : Int) + (rN : Int) = (u2 : Int) := by omega
            have m2 : (v : Int) + (rN : Int) = (v2 : Int) := by omega
            have m3 : IntKind.i64.wrap (u2 : Int) = (u2 : Int) := by rw [IntKind.wrap_i64]; omega
            have m4 : IntKind.i64.wrap (v2 : Int) = (v2 : Int) := by rw [IntKind.wrap_i64]; omega
            clear HK4 h64 hu hv
            go_wp2_with fail
            go_big_quiet (fail)
            have hQ4 := hQ3.low (Below.dN (Below.refl _ W4) nq)
            have hS4 := hS3.drewN nq
            have hG5 := grown_drewN hG3 nq
            have hO4 := hG4.low (Below.dN (Below.refl _ W4) nq)
            clear hQ3 hS3 hG3 hG4 c0 c1 c2 c3 g0 g1 g2 g3 n1 n2 n3 n4 e3 e4
            generalize W4.drewN nq = wf at hQ4 hS4 hG5 hO4 ⊢
            go_wp2
            go_loopw [12] (fun iv wr => ∃ i : Nat, i ≤ rN ∧ iv = .int .i64 i ∧ Ls W0 W0.heap.size x.length (wrk K1 (fp u v i)) wr ∧ w.grownBy wr (some W0.heap.size) ∧ Pbox wr w.heap.size A b1 C d1 ∧ Gbx wr Br ⟨rX, rY, rN, rR⟩) (fun iv _ => rN - (intOf iv).toNat)
            case atStart => exact ⟨0, Nat.zero_le _, rfl, hS4, hG5, hQ4, hO4⟩
            case round =>
              clear hQ4 hS4 hG5 hO4
              obtain ⟨i, hi, rfl, hS, hG, hQ, hO⟩ := hrel
              have hwr := hS.low.size
              obtain ⟨c0, c1, c2, c3⟩ := hQ.cells
              obtain ⟨g0, g1, g2, g3⟩ := hO.cells
              simp only at g0 g1 g2 g3
              by_cases hlt : i < rN
              · have hS1 := hS.set (u + i) ((v + i : Nat) : Int)
                have he : (wrk K1 (fp u v i)).set (u + i) ((v + i : Nat) : Int) = wrk K1 (fp u v (i + 1)) := by rw [fp_snoc2, wrk_append]; rfl
                rw [he] at hS1
                have hl := hS.len
                obtain ⟨s, hs⟩ : ∃ s, u + i = s := ⟨_, rfl⟩
                obtain ⟨t, ht⟩ : ∃ t, v + i = t := ⟨_, rfl⟩
                rw [hs, ht] at hS1
                have d0 := hS.at (List.getElem?_eq_getElem (i := s) (by omega))
                generalize (wrk K1 (fp u v i))[s] = z0 at d0
                have f1 := hS.own.frozenAt s
                have hgs := grown_set wr W0.heap.size s (.int .i64 (t : Int))
                have hG1 := hG.trans hgs
                have hQ1 := hQ.keep hgs (by simp; omega)
                have hO1 := hO.keep hgs (by simp; omega)
                have n1 : (u : Int) + (i : Int) = (s : Int) := by omega
                have n2 : (v : Int) + (i : Int) = (t : Int) := by omega
                have n3 : IntKind.i64.wrap (s : Int) = (s : Int) := by rw [IntKind.wrap_i64]; omega
                have n4 : IntKind.i64.wrap (t : Int) = (t : Int) := by rw [IntKind.wrap_i64]; omega
                have i3 : 0 ≤ (s : Int) := by omega
                have i4 : (s : Int) < (x.length : Int) := by omega
                clear hs ht he hS hG hQ hO hgs
                go_wp2
                go_roundw
                case rel => exact ⟨i + 1, by omega, by go_num, hS1, hG1, hQ1, hO1⟩
                case measure => simp [intOf]; omega
              · obtain rfl : i = rN := by omega
                obtain ⟨K2, hK2⟩ : ∃ K2, wrk (wrk K1 (fp u v i)) (pcs (hmid x y) x y f A u C v) = K2 := ⟨_, rfl⟩
                have HA : Hid (wrk (wrk K1 (fp u v i)) (pcs (hmid x y) x y f A u C v) = K2) := hK2
                have HB : Hid (wrk K2 (pcs (hmid x y) x y f u2 b1 v2 d1) = KF) := (by
                  show _ = _
                  have := HK5.out
                  rw [hK2] at this
                  exact this)
                clear hK2 HK5 hu2 hv2
                go_wp2_with fail
                refine (ih wr _ hS A u C v hAu (by omega) hCv (by omega) (by omega) K2 HA).mono ?_
                rintro e w5 ⟨rfl, hS5, hG5⟩
                have hG6 := hG.trans hG5
                have hQ6 := hQ.keep hG5 (by simp; omega)
                have hO6 := hO.keep hG5 (by simp; omega)
                clear hS hG hQ hO hG5 c0 c1 c2 c3 g0 g1 g2 g3
                obtain ⟨c0, c1, c2, c3⟩ := hQ6.cells
                obtain ⟨g0, g1, g2, g3⟩ := hO6.cells
                simp only at g0 g1 g2 g3
                go_wp2_with fail
                refine (ih w5 K2 hS5 u2 b1 v2 d1 (by omega) hbx (by omega) hdy (by omega) KF HB).mono ?_
                rintro e w6 ⟨rfl, hS7, hG7⟩
                have hG8 := hG6.trans hG7
                go_wp2
                go_end0
                exact ⟨rfl, hS7, hG8⟩
      · have hG0 : Gbx (W2.drew.alloc (.cells #[.int .i64 0, .int .i64 0, .int .i64 0, .int .i64 0] 100)) W2.drew.heap.size ⟨0, 0, 0, 0⟩ := Gbx.new W2.drew ⟨0, 0, 0, 0⟩
        obtain ⟨Br, hBr⟩ : ∃ Br, W2.drew.heap.size = Br := ⟨_, rfl⟩
        have hBl : W2.heap.size ≤ Br := by rw [← hBr]; exact Below.size hHeld
        replace hHeld : Low W2 (W2.drew.alloc (.cells #[.int .i64 0, .int .i64 0, .int .i64 0, .int .i64 0] 100)) := Below.alloc hHeld (Below.size hHeld) _
        generalize W2.drew.alloc (.cells #[.int .i64 0, .int .i64 0, .int .i64 0, .int .i64 0] 100) = u12 at hG0 hHeld ⊢
        rw [hBr] at hG0 ⊢
        simp only [Act.put, List.setIfInBounds_toArray, List.set_cons_zero, List.set_cons_succ]
        refine go_callE 12 43 _ rfl (by kernel_rfl) (by kernel_rfl) (by kernel_rfl) 55 (.func 55) #[.tmp 36, .tmp 42] #[35, 35] (by kernel_rfl) #[] (by kernel_rfl) #[.slice xo2 nx xc2, .slice yo2 ny yc2] (by kernel_rfl) (enters_of Tryz.func55 (by kernel_rfl) rfl) _ (rbest_held (hxs _ hHeld).1 (hxs _ hHeld).2 HX.out.1 HX.out.2 HO HE.out hHeld) ?_
        rintro _ u13 hHeld ⟨rfl, hcl⟩
        simp only [Act.put, List.setIfInBounds_toArray, List.set_cons_zero, List.set_cons_succ]
        replace hG0 := hG0.low hcl
        clear hcl
        refine go_take 13 30 _ (.tuple #[.agg #[.int .i64 (rX : Int), .int .i64 (rY : Int), .int .i64 (rN : Int), .int .i64 (rR : Int)], .bool fl]) rfl (by kernel_rfl) (by kernel_rfl) (by kernel_rfl) (by kernel_rfl) (fun _ _ _ h => h) (Or.inl ⟨by kernel_rfl, fun u hu => by kernel_rfl⟩) hHeld ?_
        simp only [Act.put, List.setIfInBounds_toArray, List.set_cons_zero, List.set_cons_succ]
        refine go_take 14 44 _ (.agg #[.int .i64 (rX : Int), .int .i64 (rY : Int), .int .i64 (rN : Int), .int .i64 (rR : Int)]) rfl (by kernel_rfl) (by kernel_rfl) (by kernel_rfl) (by kernel_rfl) (fun _ _ _ h => h) (Or.inl ⟨by kernel_rfl, fun u hu => by kernel_rfl⟩) hHeld ?_
        simp only [Act.put, List.setIfInBounds_toArray, List.set_cons_zero, List.set_cons_succ]
        refine go_take 15 45 _ (.bool fl) rfl (by kernel_rfl) (by kernel_rfl) (by kernel_rfl) (by kernel_rfl) (fun _ _ _ h => h) (Or.inl ⟨by kernel_rfl, fun u hu => by kernel_rfl⟩) hHeld ?_
        simp only [Act.put, List.setIfInBounds_toArray, List.set_cons_zero, List.set_cons_succ]
        have hL4 : Low W2 ((((u13.setCell ⟨Br, 0, none⟩ (.int .i64 (rX : Int))).setCell ⟨Br, 1, none⟩ (.int .i64 (rY : Int))).setCell ⟨Br, 2, none⟩ (.int .i64 (rN : Int))).setCell ⟨Br, 3, none⟩ (.int .i64 (rR : Int))) := (((Below.setCell (p := ⟨Br, 0, none⟩) hHeld hBl _).setCell (p := ⟨Br, 1, none⟩) hBl _).setCell (p := ⟨Br, 2, none⟩) hBl _).setCell (p := ⟨Br, 3, none⟩) hBl _
        have hG4 : Gbx ((((u13.setCell ⟨Br, 0, none⟩ (.int .i64 (rX : Int))).setCell ⟨Br, 1, none⟩ (.int .i64 (rY : Int))).setCell ⟨Br, 2, none⟩ (.int .i64 (rN : Int))).setCell ⟨Br, 3, none⟩ (.int .i64 (rR : Int))) Br ⟨rX, rY, rN, rR⟩ := heap_setCell_same _ Br 3 _ _ _ (heap_setCell_same _ Br 2 _ _ _ (heap_setCell_same _ Br 1 _ _ _ (heap_setCell_same u13 Br 0 _ _ _ hG0)))
        refine go_skip 17 _ rfl (by kernel_rfl) (by kernel_rfl) (by kernel_rfl) ((((u13.setCell ⟨Br, 0, none⟩ (.int .i64 (rX : Int))).setCell ⟨Br, 1, none⟩ (.int .i64 (rY : Int))).setCell ⟨Br, 2, none⟩ (.int .i64 (rN : Int))).setCell ⟨Br, 3, none⟩ (.int .i64 (rR : Int))) (exec_st4 hG0 (.tmp 8) (.tmp 44) (by kernel_rfl) (by kernel_rfl) (by kernel_rfl)) (hL4) ?_
        refine go_take 18 9 _ (.bool fl) rfl (by kernel_rfl) (by kernel_rfl) (by kernel_rfl) (by kernel_rfl) (fun _ _ _ h => h) (Or.inl ⟨by kernel_rfl, fun u hu => by kernel_rfl⟩) hL4 ?_
        simp only [Act.put, List.setIfInBounds_toArray, List.set_cons_zero, List.set_cons_succ]
        refine wpAnyH_done (by kernel_rfl) ?_ _
        refine NoPanic.normal ?_
        have hgB : W0.heap.size < Br := by have := hS2.lt; omega
        have hwB : w.heap.size < Br := Nat.lt_of_lt_of_le (Array.getElem?_eq_some_iff.1 hQ2).1 hBl
        have hQ3 := hQ2.low hL4
        have hS3 := hS2.keep hL4
        have hG3 := hG2.trans (low_grown hL4 (some W0.heap.size))
        clear hcs hxs r1 r2 hHeld hG0 hBr hQ2 hS2 hG2 HE HO HX hS1 hG1' hQ1 hL4
        generalize (((u13.setCell ⟨Br, 0, none⟩ (.int .i64 (rX : Int))).setCell ⟨Br, 1, none⟩ (.int .i64 (rY : Int))).setCell ⟨Br, 2, none⟩ (.int .i64 (rN : Int))).setCell ⟨Br, 3, none⟩ (.int .i64 (rR : Int)) = W4 at hG4 hQ3 hS3 hG3 ⊢
        obtain ⟨c0, c1, c2, c3⟩ := hQ3.cells
        obtain ⟨g0, g1, g2, g3⟩ := hG4.cells
        cases o with
        | none =>
          obtain rfl : false = fl := HRF.out.2
          have e : K1 = KF := HK4.out
          subst e
          go_wp2
          (try simp only [Exit.inBlock, Exit.then])
          refine bodyPost_ret (results_none rfl _ _ _) rfl ?_
          exact ⟨rfl, hS3, hG3⟩
        | some r =>
          obtain rfl : true = fl := HRF.out.2
          obtain rfl : r = ⟨rX, rY, rN, rR⟩ := HRF.out.1
          obtain ⟨q1, q2, q3, q4⟩ := HIn.out _ rfl
          simp only at q1 q2 q3 q4 g0 g1 g2 g3
          clear HRF HIn
          by_cases h64 : 64 < rR
          · have e3 : decide ((64 : Int) < (rR : Int)) = true := decide_eq_true (by omega)
            have e4 : decide ((rR : Int) > 64) = true := e3
            have HK5 : Hid (wrk K1 (lp A C (kp 0 (sub x A b1) (sub y C d1))) = KF) := (by
              show _ = _
              have := HK4.out
              rw [hsel, if_pos h64] at this
              exact this)
            clear HK4 h64
            go_wp2_with fail
            refine (Least_f x y W0 _ _ _ hx hy hxl hyl K1 hS3 A b1 C d1 hAb hbx hCd hdy KF HK5).mono ?_
            rintro e w4 ⟨rfl, hS4, hG5⟩
            have hG6 := hG3.trans hG5
            go_wp2
            (try simp only [Exit.inBlock, Exit.then])
            refine bodyPost_ret (results_none rfl _ _ _) rfl ?_
            exact ⟨rfl, hS4, hG6⟩
          · have e3 : decide ((64 : Int) < (rR : Int)) = false := decide_eq_false (by omega)
            have e4 : decide ((rR : Int) > 64) = false := e3
            obtain ⟨u, hu⟩ : ∃ u, A + rX = u := ⟨_, rfl⟩
            obtain ⟨v, hv⟩ : ∃ v, C + rY = v := ⟨_, rfl⟩
            obtain ⟨u2, hu2⟩ : ∃ u2, u + rN = u2 := ⟨_, rfl⟩
            obtain ⟨v2, hv2⟩ : ∃ v2, v + rN = v2 := ⟨_, rfl⟩
            have HK5 : Hid (wrk (wrk (wrk K1 (fp u v rN)) (pcs (hmid x y) x y f A u C v)) (pcs (hmid x y) x y f u2 b1 v2 d1) = KF) := (by
              show _ = _
              have := HK4.out
              rw [hsel, if_neg h64, wrk_append, wrk_append] at this
              simp only [hu, hv, hu2, hv2] at this
              exact this)
            rw [hu, hu2] at q2
            rw [hv, hv2] at q3
            have hAu : A ≤ u := by omega
            have hCv : C ≤ v := by omega
            have huu : u < u2 := by omega
            have hvv : v < v2 := by omega
            have n1 : (A : Int) + (rX : Int) = (u : Int) := by omega
            have n2 : (C : Int) + (rY : Int) = (v : Int) := by omega
            have n3 : IntKind.i64.wrap (u : Int) = (u : Int) := by rw [IntKind.wrap_i64]; omega
            have n4 : IntKind.i64.wrap (v : Int) = (v : Int) := by rw [IntKind.wrap_i64]; omega
            have m1 : (u : Int) + (rN : Int) = (u2 : Int) := by omega
            have m2 : (v : Int) + (rN : Int) = (v2 : Int) := by omega
            have m3 : IntKind.i64.wrap (u2 : Int) = (u2 : Int) := by rw [IntKind.wrap_i64]; omega
            have m4 : IntKind.i64.wrap (v2 : Int) = (v2 : Int) := by rw [IntKind.wrap_i64]; omega
            clear HK4 h64 hu hv
            go_wp2_with fail
            go_big_quiet (fail)
            have hQ4 := hQ3.low (Below.dN (Below.refl _ W4) nq)
            have hS4 := hS3.drewN nq
            have hG5 := grown_drewN hG3 nq
            have hO4 := hG4.low (Below.dN (Below.refl _ W4) nq)
            clear hQ3 hS3 hG3 hG4 c0 c1 c2 c3 g0 g1 g2 g3 n1 n2 n3 n4 e3 e4
            generalize W4.drewN nq = wf at hQ4 hS4 hG5 hO4 ⊢
            go_wp2
            go_loopw [12] (fun iv wr => ∃ i : Nat, i ≤ rN ∧ iv = .int .i64 i ∧ Ls W0 W0.heap.size x.length (wrk K1 (fp u v i)) wr ∧ w.grownBy wr (some W0.heap.size) ∧ Pbox wr w.heap.size A b1 C d1 ∧ Gbx wr Br ⟨rX, rY, rN, rR⟩) (fun iv _ => rN - (intOf iv).toNat)
            case atStart => exact ⟨0, Nat.zero_le _, rfl, hS4, hG5, hQ4, hO4⟩
            case round =>
              clear hQ4 hS4 hG5 hO4
              obtain ⟨i, hi, rfl, hS, hG, hQ, hO⟩ := hrel
              have hwr := hS.low.size
              obtain ⟨c0, c1, c2, c3⟩ := hQ.cells
              obtain ⟨g0, g1, g2, g3⟩ := hO.cells
              simp only at g0 g1 g2 g3
              by_cases hlt : i < rN
              · have hS1 := hS.set (u + i) ((v + i : Nat) : Int)
                have he : (wrk K1 (fp u v i)).set (u + i) ((v + i : Nat) : Int) = wrk K1 (fp u v (i + 1)) := by rw [fp_snoc2, wrk_append]; rfl
                rw [he] at hS1
                have hl := hS.len
                obtain ⟨s, hs⟩ : ∃ s, u + i = s := ⟨_, rfl⟩
                obtain ⟨t, ht⟩ : ∃ t, v + i = t := ⟨_, rfl⟩
                rw [hs, ht] at hS1
                have d0 := hS.at (List.getElem?_eq_getElem (i := s) (by omega))
                generalize (wrk K1 (fp u v i))[s] = z0 at d0
                have f1 := hS.own.frozenAt s
                have hgs := grown_set wr W0.heap.size s (.int .i64 (t : Int))
                have hG1 := hG.trans hgs
                have hQ1 := hQ.keep hgs (by simp; omega)
                have hO1 := hO.keep hgs (by simp; omega)
                have n1 : (u : Int) + (i : Int) = (s : Int) := by omega
                have n2 : (v : Int) + (i : Int) = (t : Int) := by omega
                have n3 : IntKind.i64.wrap (s : Int) = (s : Int) := by rw [IntKind.wrap_i64]; omega
                have n4 : IntKind.i64.wrap (t : Int) = (t : Int) := by rw [IntKind.wrap_i64]; omega
                have i3 : 0 ≤ (s : Int) := by omega
                have i4 : (s : Int) < (x.length : Int) := by omega
                clear hs ht he hS hG hQ hO hgs
                go_wp2
                go_roundw
                case rel => exact ⟨i + 1, by omega, by go_num, hS1, hG1, hQ1, hO1⟩
                case measure => simp [intOf]; omega
              · obtain rfl : i = rN := by omega
                obtain ⟨K2, hK2⟩ : ∃ K2, wrk (wrk K1 (fp u v i)) (pcs (hmid x y) x y f A u C v) = K2 := ⟨_, rfl⟩
                have HA : Hid (wrk (wrk K1 (fp u v i)) (pcs (hmid x y) x y f A u C v) = K2) := hK2
                have HB : Hid (wrk K2 (pcs (hmid x y) x y f u2 b1 v2 d1) = KF) := (by
                  show _ = _
                  have := HK5.out
                  rw [hK2] at this
                  exact this)
                clear hK2 HK5 hu2 hv2
                go_wp2_with fail
                refine (ih wr _ hS A u C v hAu (by omega) hCv (by omega) (by omega) K2 HA).mono ?_
                rintro e w5 ⟨rfl, hS5, hG5⟩
                have hG6 := hG.trans hG5
                have hQ6 := hQ.keep hG5 (by simp; omega)
                have hO6 := hO.keep hG5 (by simp; omega)
                clear hS hG hQ hO hG5 c0 c1 c2 c3 g0 g1 g2 g3
                obtain ⟨c0, c1, c2, c3⟩ := hQ6.cells
                obtain ⟨g0, g1, g2, g3⟩ := hO6.cells
                simp only at g0 g1 g2 g3
                go_wp2_with fail
                refine (ih w5 K2 hS5 u2 b1 v2 d1 (by omega) hbx (by omega) hdy (by omega) KF HB).mono ?_
                rintro e w6 ⟨rfl, hS7, hG7⟩
                have hG8 := hG6.trans hG7
                go_wp2
                go_end0
                exact ⟨rfl, hS7, hG8⟩
    · have hk2 : A = b1 ∨ C = d1 := by omega
      have e : K1 = KF := by
        have := HKF.out
        rw [if_neg hm0] at this
        exact this
      subst e
      obtain ⟨c0, c1, c2, c3⟩ := hQ2.cells
      by_cases h1 : A = b1
      · have e1 : ((A : Int) == (b1 : Int)) = true := by simp; omega
        clear hm0 hk2 h1
        go_wp2
        (try simp only [Exit.inBlock, Exit.then])
        refine bodyPost_ret (results_none rfl _ _ _) rfl ?_
        exact ⟨rfl, hS2, hG2⟩
      · have e1 : ((A : Int) == (b1 : Int)) = false := by simp; omega
        have e2 : ((C : Int) == (d1 : Int)) = true := by simp; omega
        clear hm0 hk2 h1
        go_wp2
        (try simp only [Exit.inBlock, Exit.then])
        refine bodyPost_ret (results_none rfl _ _ _) rfl ?_
        exact ⟨rfl, hS2, hG2⟩
end Go.Proofs.YtjhanfiohfakoaaGreatDoor

/- The reference's Diff of the layer histogram, walked. -/
set_option maxRecDepth 20000
namespace Go.Proofs.YtjhanfiohfakoaaGreatDoor
open Go.RowKit

set_option maxRecDepth 10000 in
set_option maxHeartbeats 2000000 in
theorem rhiDiff_f (x y : List Int) (vx vy : Value) (w : World) (hx : HI w vx x) (hy : HI w vy y) (hxl : x.length ≤ 4096) (hyl : y.length ≤ 4096) (L : List Ch) (hL : Hid (mkL (hKeep x y) y.length = L)) :
    Calls Tryz.prog 22 #[vx, vy] w fun e w' => ∃ v', e = .returned (.tuple #[v', .int .i64 0]) ∧ HCh w' v' L ∧ Below w.heap.size w w' := by
  obtain ⟨xo, xc, rfl⟩ := Holds.form hx
  obtain ⟨yo, yc, rfl⟩ := Holds.form hy
  obtain ⟨KF, hKF⟩ : ∃ KF, hKeep x y = KF := ⟨_, rfl⟩
  have HK : Hid (Kpt x y KF) := (by rw [← hKF]; exact hKeep_kpt x y)
  have HF : Hid (wrk (List.replicate x.length (-1)) (pcs (hmid x y) x y (x.length + 1) 0 x.length 0 y.length) = KF) := hKF
  rw [hKF] at hL
  clear hKF
  have e1 : decide ((4096 : Int) < (x.length : Int)) = false := decide_eq_false (by omega)
  have e2 : decide ((4096 : Int) < (y.length : Int)) = false := decide_eq_false (by omega)
  go_enter Tryz.func22, Tryz.ntmps22
  go_wp2_with fail
  refine (None_f x.length w (by omega)).mono ?_
  rintro e w1 ⟨rfl, hO1, hB1⟩
  have hS1 : Ls w w.heap.size x.length (List.replicate x.length (-1)) w1 := ⟨hB1, hO1⟩
  clear hO1 hB1
  go_wp2_with fail
  refine (rhpiece_f x y w _ _ hx hy hxl hyl (x.length + 1) w1 _ hS1 0 x.length 0 y.length (Nat.zero_le _) (Nat.le_refl _) (Nat.zero_le _) (Nat.le_refl _) (by omega) KF HF).mono ?_
  rintro e w2 ⟨rfl, hS2, hG2⟩
  have hKl := HK.out.len
  have hv2 : HI w2 (.slice (some ⟨w.heap.size, 0, none⟩) x.length x.length) KF := by
    unfold HI
    rw [hKl]
    exact holds_of hS2.own
  have HKL : Hid (KF.length = x.length) := hKl
  clear hKl
  go_wp2_with fail
  refine (rMake_f KF y.length L _ w2 hv2 (by have := HKL.out; omega) HK.out.vk (by omega) (by omega) hL).mono ?_
  rintro e w3 ⟨v3, rfl, hv3, hB3⟩
  have hB := hS2.low.trans (hB3.mono hS2.low.size)
  clear hv2
  go_wp2
  go_ret2
  exact ⟨_, rfl, hv3, hB⟩
end Go.Proofs.YtjhanfiohfakoaaGreatDoor

/- speedy.Greedy, walked. -/
set_option maxRecDepth 20000
namespace Go.Proofs.YtjhanfiohfakoaaGreatDoor
open Go.RowKit

theorem gdn_found {c : Int} {y : List Int} {nx k : Nat} {far : Int} (h1 : nx ≤ k) (h2 : (k : Int) - (nx : Int) < far) (h3 : y[k]? = some c) (h4 : ∀ j, nx ≤ j → j < k → y[j]? ≠ some c) : gdn c y nx far = some k := by
  cases h : gdn c y nx far with
  | none => exact absurd h3 (gdn_none h k h1 (by omega))
  | some j =>
    obtain ⟨q1, q2, q3, q4, q5⟩ := gdn_some h
    rcases Nat.lt_trichotomy j k with e | e | e
    · exact absurd q4 (h4 j q1 e)
    · rw [e]
    · exact absurd h3 (q5 k h1 e)
theorem gdn_lost {c : Int} {y : List Int} {nx k : Nat} {far : Int} (h2 : y.length ≤ k ∨ far ≤ (k : Int) - (nx : Int)) (h4 : ∀ j, nx ≤ j → j < k → y[j]? ≠ some c) : gdn c y nx far = none := by
  cases h : gdn c y nx far with
  | none => rfl
  | some j =>
    obtain ⟨q1, q2, q3, q4, q5⟩ := gdn_some h
    exact absurd q4 (h4 j q1 (by omega))
/-- what is written down of what Greedy keeps -/
def Gw (y : List Int) (far : Int) (G : List Int) (n : Nat) (x : List Int) (i nx : Nat) (Z : List Int) : Prop := Z.length = n ∧ Z.take i ++ gdy y far nx x = G
theorem Gw.hit {y : List Int} {far : Int} {G : List Int} {n i nx j : Nat} {c : Int} {x Z : List Int} (h : Gw y far G n (c :: x) i nx Z) (hi : i < n) (hj : gdn c y nx far = some j) : Gw y far G n x (i + 1) (j + 1) (Z.set i (j : Int)) := by
  refine ⟨by rw [List.length_set]; exact h.1, ?_⟩
  rw [← h.2, gdy, hj, List.take_add_one, List.getElem?_set_self (by rw [h.1]; exact hi)]
  rw [List.take_set_of_le (Nat.le_refl _)]
  simp
theorem Gw.miss {y : List Int} {far : Int} {G : List Int} {n i nx : Nat} {c : Int} {x Z : List Int} (h : Gw y far G n (c :: x) i nx Z) (hi : i < n) (hj : gdn c y nx far = none) : Gw y far G n x (i + 1) nx (Z.set i (-1)) := by
  refine ⟨by rw [List.length_set]; exact h.1, ?_⟩
  rw [← h.2, gdy, hj, List.take_add_one, List.getElem?_set_self (by rw [h.1]; exact hi)]
  rw [List.take_set_of_le (Nat.le_refl _)]
  simp

set_option maxRecDepth 10000 in
set_option maxHeartbeats 4000000 in
theorem Greedy_f (x y : List Int) (far : Int) (vx vy : Value) (w : World) (hx : HI w vx x) (hy : HI w vy y) (hxl : x.length ≤ 1048576) (hyl : y.length ≤ 1048576) (G : List Int) (hG : Hid (gdy y far 0 x = G)) :
    Calls Tryz.prog 79 #[vx, vy, .int .i64 far] w fun e w' => ∃ zo zc, e = .returned (.slice zo x.length zc) ∧ w'.ownsRow w.heap.size 3 1 (.slice zo x.length zc) x.length (icells G) ∧ Below w.heap.size w w' := by
  obtain ⟨xo, xc, rfl⟩ := Holds.form hx
  obtain ⟨yo, yc, rfl⟩ := Holds.form hy
  have hmk := run_makeI x.length (by omega)
  have hrow := World.ownsRow_lit (base := w.heap.size) (e := 3) (size := 1) w (madeCells #[Value.int IntKind.i64 0] x.length) x.length (Nat.le_refl _) (by unfold maxLen; omega) (by rw [size_madeCells]; omega)
  have hB0 : Below w.heap.size w (w.alloc (Obj.cells (madeCells #[Value.int IntKind.i64 0] x.length) 3)) := (Below.refl _ w).alloc (Nat.le_refl _) _
  rw [madeI] at hmk hrow hB0
  have hrow' : (w.alloc (Obj.cells (List.replicate x.length (Value.int .i64 0)).toArray 3)).ownsRow w.heap.size 3 1 (.slice (some ⟨w.heap.size, 0, none⟩) x.length x.length) x.length (icells (List.replicate x.length 0)) := by
    simpa [icells] using hrow
  have HW0 : Hid (Gw y far G x.length (x.drop 0) 0 0 (List.replicate x.length 0)) := (by
    refine ⟨by simp, ?_⟩
    rw [List.take_zero, List.drop_zero, List.nil_append]
    exact hG.out)
  clear hrow hG
  go_enter Tryz.func79, Tryz.ntmps79
  go_wp2
  go_step3
  go_wp2
  go_step3
  go_wp2
  go_loopw [8, 17] (fun fv iv wr => ∃ (i nx : Nat) (Z : List Int), i ≤ x.length ∧ nx ≤ y.length ∧ fv = .int .i64 nx ∧ iv = .int .i64 i ∧ Below w.heap.size w wr ∧ wr.ownsRow w.heap.size 3 1 (.slice (some ⟨w.heap.size, 0, none⟩) x.length x.length) x.length (icells Z) ∧ Hid (Gw y far G x.length (x.drop i) i nx Z)) (fun _ iv _ => x.length - (intOf iv).toNat)
  case atStart => exact ⟨0, 0, _, Nat.zero_le _, Nat.zero_le _, rfl, rfl, hB0, hrow', HW0⟩
  case round =>
    clear hB0 hrow' HW0 hmk
    obtain ⟨i, nx, Z, hi, hnx, rfl, rfl, hB, hO, HW⟩ := hrel
    by_cases hlt : i < x.length
    · obtain ⟨xb, xf, rfl, _, hqx⟩ := HI.at (HI.keep hx hB (Nat.le_refl _)) (by omega)
      have x0 := hqx i hlt
      obtain ⟨c, hc⟩ : ∃ c, x[i] = c := ⟨_, rfl⟩
      rw [hc] at x0
      have HW1 : Hid (Gw y far G x.length (c :: x.drop (i + 1)) i nx Z) := (by
        have := HW.out
        rw [List.drop_eq_getElem_cons hlt, hc] at this
        exact this)
      clear hqx hc HW
      have i1 : 0 ≤ (i : Int) := by omega
      have i2 : (i : Int) < (x.length : Int) := by omega
      go_wp2
      go_loopw [8, 11] (fun fv av wi => ∃ (k : Nat), nx ≤ k ∧ k ≤ y.length ∧ fv = .int .i64 nx ∧ av = .int .i64 k ∧ wi = wr ∧ Hid (∀ j, nx ≤ j → j < k → y[j]? ≠ some c)) (fun _ av _ => y.length - (intOf av).toNat)
      case atStart => exact ⟨nx, Nat.le_refl _, hnx, rfl, rfl, rfl, fun j h1 h2 => by omega⟩
      case round =>
        clear x0
        obtain ⟨k, hk1, hk2, rfl, rfl, rfl, HF⟩ := hrel
        have y1 := hO.frozenAt i
        have hZl := HW1.out.1
        have z0 := hO.cellAt i (by omega)
        rw [List.getElem?_eq_getElem (by rw [icells_length]; omega)] at z0
        obtain ⟨z1, hz1⟩ : ∃ z, (icells Z)[i]'(by rw [icells_length]; omega) = z := ⟨_, rfl⟩
        rw [hz1] at z0
        clear hz1 hZl
        by_cases hky : k < y.length
        · by_cases hkf : (k : Int) - (nx : Int) < far
          · obtain ⟨yb, yf, rfl, _, hqy⟩ := HI.at (HI.keep hy hB (Nat.le_refl _)) (by omega)
            have y0 := hqy k hky
            obtain ⟨d, hd⟩ : ∃ d, y[k] = d := ⟨_, rfl⟩
            rw [hd] at y0
            have HD : Hid (y[k]? = some d) := (by show _ = _; rw [List.getElem?_eq_getElem hky, hd])
            have k1 : (k : Int) < (y.length : Int) := by omega
            have k2 : 0 ≤ (k : Int) := by omega
            have n1 : IntKind.i64.wrap ((k : Int) - (nx : Int)) = (k : Int) - (nx : Int) := by rw [IntKind.wrap_i64]; omega
            clear hqy hd
            by_cases hcd : d = c
            · subst hcd
              obtain ⟨p1, g1⟩ := hO.stored i (.int .i64 (k : Int))
              rw [show (icells Z).set i (.int .i64 (k : Int)) = icells (Z.set i (k : Int)) by simp [icells, List.map_set]] at p1
              have hB1 := hB.grown g1 hB.size (fun j hj => by have := Option.some.inj hj; omega)
              have HW2 : Hid (Gw y far G x.length (x.drop (i + 1)) (i + 1) (k + 1) (Z.set i (k : Int))) := HW1.out.hit hlt (gdn_found hk1 hkf HD.out HF.out)
              clear g1
              go_wp2
              go_roundw
              case rel => exact ⟨i + 1, k + 1, _, by omega, by omega, by go_num, by go_num, hB1, p1, HW2⟩
              case measure => simp [intOf]; omega
            · have e1 : (d == c) = false := by simpa using hcd
              have HF2 : Hid (∀ j, nx ≤ j → j < k + 1 → y[j]? ≠ some c) := (by
                intro j h1 h2 h3
                by_cases e : j = k
                · subst e
                  rw [HD.out] at h3
                  exact hcd (Option.some.inj h3)
                · exact HF.out j h1 (by omega) h3)
              go_wp2
              go_roundw
              case rel => exact ⟨k + 1, by omega, by omega, rfl, by go_num, trivial, HF2⟩
              case measure => simp [intOf]; omega
          · have k1 : (k : Int) < (y.length : Int) := by omega
            have n1 : IntKind.i64.wrap ((k : Int) - (nx : Int)) = (k : Int) - (nx : Int) := by rw [IntKind.wrap_i64]; omega
            have hkf' : far ≤ (k : Int) - (nx : Int) := by omega
            obtain ⟨p1, g1⟩ := hO.stored i (.int .i64 (-1))
            rw [show (icells Z).set i (.int .i64 (-1)) = icells (Z.set i (-1)) by simp [icells, List.map_set]] at p1
            have hB1 := hB.grown g1 hB.size (fun j hj => by have := Option.some.inj hj; omega)
            have HW2 : Hid (Gw y far G x.length (x.drop (i + 1)) (i + 1) nx (Z.set i (-1))) := HW1.out.miss hlt (gdn_lost (.inr hkf') HF.out)
            clear g1
            go_wp2
            go_roundw
            case rel => exact ⟨i + 1, nx, _, by omega, hnx, by go_num, by go_num, hB1, p1, HW2⟩
            case measure => simp [intOf]; omega
        · obtain rfl : k = y.length := by omega
          obtain ⟨p1, g1⟩ := hO.stored i (.int .i64 (-1))
          rw [show (icells Z).set i (.int .i64 (-1)) = icells (Z.set i (-1)) by simp [icells, List.map_set]] at p1
          have hB1 := hB.grown g1 hB.size (fun j hj => by have := Option.some.inj hj; omega)
          have HW2 : Hid (Gw y far G x.length (x.drop (i + 1)) (i + 1) nx (Z.set i (-1))) := HW1.out.miss hlt (gdn_lost (.inl (Nat.le_refl _)) HF.out)
          clear g1
          go_wp2
          go_roundw
          case rel => exact ⟨i + 1, nx, _, by omega, hnx, by go_num, by go_num, hB1, p1, HW2⟩
          case measure => simp [intOf]; omega
    · obtain rfl : i = x.length := by omega
      have e : Z = G := by
        have := HW.out
        rw [← this.2, List.drop_of_length_le (Nat.le_refl _), gdy, List.append_nil, List.take_of_length_le (by rw [this.1]; exact Nat.le_refl _)]
      subst e
      clear HW
      go_wp2
      (try rw [Exit.noGoto_ret])
      go_ret
      exact ⟨_, _, rfl, hO, hB⟩
end Go.Proofs.YtjhanfiohfakoaaGreatDoor

/- speedy.Diff's closure, and Diff, walked. -/
set_option maxRecDepth 20000
namespace Go.Proofs.YtjhanfiohfakoaaGreatDoor
open Go.RowKit

theorem lp_none (Z : List Int) : ∀ (a c : Int), (∀ z ∈ Z, z = -1) → lp a c Z = [] := by
  induction Z with
  | nil => intro a c _; rfl
  | cons z Z ih =>
    intro a c h
    rw [lp, if_pos (h z List.mem_cons_self), ih (a + 1) c (fun q hq => h q (List.mem_cons_of_mem _ hq))]
    rfl
/-- where a piece is empty nothing is kept -/
theorem lp_empty (a c : Int) (X Y : List Int) (h : X.length = 0 ∨ Y.length = 0) : lp a c (kp 0 X Y) = [] := by
  refine lp_none _ a c fun z hz => ?_
  have hV := kp_vk 0 X Y (Int.le_refl _)
  rw [Int.zero_add] at hV
  rcases h with h | h
  · rw [List.eq_nil_of_length_eq_zero h] at hz
    have := kp_length 0 [] Y
    rw [List.eq_nil_of_length_eq_zero this] at hz
    cases hz
  · have h1 := hV.each (Int.le_refl _) z hz
    have h2 := hV.lt z hz
    omega
theorem smid_cut (B : Int) (x y : List Int) (rec : Nat → Nat → Nat → Nat → List Pr) (A b C d : Nat) (hA : A ≤ b) (hC : C ≤ d) (hb : b ≤ x.length) (hd : d ≤ y.length) : (if A < b ∧ C < d then smid B x y rec A b C d else []) = if ((b - A : Nat) : Int) * ((d - C : Nat) : Int) ≤ max 0 B then lp A C (kp 0 (sub x A b) (sub y C d)) else lp A C (gdy (sub y C d) 64 0 (sub x A b)) := by
  by_cases h : A < b ∧ C < d
  · rw [if_pos h]
    rfl
  · have h0 : ((b - A : Nat) : Int) * ((d - C : Nat) : Int) = 0 := by
      rcases Nat.lt_or_ge A b with h1 | h1
      · rw [show d - C = 0 by omega]
        simp
      · rw [show b - A = 0 by omega]
        simp
    rw [if_neg h, if_pos (by rw [h0]; omega), lp_empty]
    rw [sub_length x A b hb, sub_length y C d hd]
    omega
theorem load_row {u : World} {a : Addr} {ao : Option Addr} {n c : Nat} (h : u.cell? a = some (.slice ao n c)) {op : Oper} (x : Operand) (ho : op.op = .load 35 x) {ev : Operand → Value} (hx : ev x = .pointer (some a)) :
    (execOp ev op).run Tryz.prog u = .ok (.value (.slice ao n c)) u := by
  simp only [execOp, ho, hx]
  go_simp
theorem greedy_held {X Y : List Int} {xo : Option Addr} {nx xc : Nat} {yo : Option Addr} {ny yc : Nat} {u : World} {G : List Int} {B : Nat} {v0 v1 v2 v3 : Value} (hl : X.length ≤ 1048576 ∧ Y.length ≤ 1048576) (hX : X.length = nx) (hx : HI u (.slice xo nx xc) X) (hy : HI u (.slice yo ny yc) Y) (hG : Hid (gdy Y 64 0 X = G)) (hQ : Qbx u B v0 v1 v2 v3) :
    Calls Tryz.prog 79 (#[.slice xo nx xc, .slice yo ny yc, .int .i64 64] ++ #[]) u fun e w' => ∃ v, e = .returned v ∧ Qbx w' B v0 v1 v2 v3 ∧ ∃ zo zc, v = .slice zo nx zc ∧ w'.ownsRow u.heap.size 3 1 (.slice zo nx zc) nx (icells G) ∧ Below u.heap.size u w' := by
  subst hX
  refine (Greedy_f X Y 64 _ _ u hx hy hl.1 hl.2 G hG).mono ?_
  rintro e w' ⟨zo, zc, rfl, h1, h2⟩
  exact ⟨_, rfl, hQ.low h2, zo, zc, rfl, h1, h2⟩
theorem keepAt_held {x : List Int} {W0 u : World} {g B : Nat} {K Z : List Int} {a c : Nat} {xo : Option Addr} {nx xc : Nat} {yo : Option Addr} {ny yc : Nat} {ko : Option Addr} {kc : Nat} (hat : 0 < nx → ko = some ⟨g, a, none⟩) (hnx : a + nx ≤ x.length) (hny : c + ny ≤ 4096) (hxl : x.length ≤ 4096) {zo : Option Addr} {zc : Nat} (hZl : Z.length = nx) (hO : u.ownsRow B 3 1 (.slice zo nx zc) nx (icells Z)) (hgB : g < B) (hV : Vk 0 ny Z) (hS : Ls W0 g x.length K u) {KF : List Int} (hKF : Hid (wrk K (lp a c Z) = KF)) {Q : Nat} {v0 v1 v2 v3 : Value} (hQ : Qbx u Q v0 v1 v2 v3) (hg : g ≠ Q) :
    Calls Tryz.prog 78 (#[.agg #[.slice xo nx xc, .slice yo ny yc, .int .i64 (c : Int), .slice ko nx kc], .slice zo nx zc] ++ #[]) u fun e w' => ∃ v, e = .returned v ∧ Qbx w' Q v0 v1 v2 v3 ∧ v = .tuple #[] ∧ Ls W0 g x.length KF w' ∧ u.grownBy w' (some g) := by
  refine (KeepAt_f x W0 u g B K Z a c xo nx xc yo ny yc ko kc hat hnx hny hxl zo zc hZl hO hgB hV hS KF hKF).mono ?_
  rintro e w' ⟨rfl, h1, h2⟩
  exact ⟨_, rfl, hQ.keep h2 (fun q => hg (Option.some.inj q).symm), rfl, h1, h2⟩

set_option maxRecDepth 10000 in
set_option maxHeartbeats 8000000 in
theorem sfind_f (x y : List Int) (W0 : World) (g Bf : Nat) (bound : Int) (hf0 : W0.cell? ⟨Bf, 0, none⟩ = some (.int .i64 bound)) (hxl : x.length ≤ 4096) (hyl : y.length ≤ 4096) (f : Nat) (w : World) (K : List Int) (hS : Ls W0 g x.length K w) (a b c d : Nat) (xo : Option Addr) (nx xc : Nat) (yo : Option Addr) (ny yc : Nat) (ko : Option Addr) (kc : Nat) (hp : Pz W0 g x y a b c d xo nx xc yo ny yc ko kc) (KF : List Int) (hKF : Hid (wrk K (pcs (smid bound x y) x y (f + 1) a b c d) = KF)) :
    Calls Tryz.prog 77 #[.agg #[.slice xo nx xc, .slice yo ny yc, .int .i64 (c : Int), .slice ko nx kc], .pointer (some ⟨Bf, 0, none⟩)] w fun e w' => e = .returned (.tuple #[]) ∧ Ls W0 g x.length KF w' ∧ w.grownBy w' (some g) := by
  have hg := hS.lt
  have HKF : Hid (∀ k m, k = tf x y a b c d → m = tb x y (a + k) b (c + k) d → wrk (wrk K (fp a c k ++ bp b d m)) (if a + k < b - m ∧ c + k < d - m then smid bound x y (pcs (smid bound x y) x y f) (a + k) (b - m) (c + k) (d - m) else []) = KF) := (by
    intro k m hk hm
    rw [← hKF.out, pcs, ends, ← hk, ← hm, wrk_append, wrk_append, wrk_append])
  have hQ0 := Qbx.new w (.slice xo nx xc) (.slice yo ny yc) (.int .i64 c) (.slice ko nx kc)
  have hB0 := (Below.refl w.heap.size w).alloc (Nat.le_refl _) (.cells #[.slice xo nx xc, .slice yo ny yc, .int .i64 c, .slice ko nx kc] 110)
  clear hKF
  go_enter Tryz.func77, Tryz.ntmps77
  go_wp2_with fail
  refine (KeepEnds_f x y W0 _ g K a b c d xo nx xc yo ny yc ko kc hp hxl hyl (hS.keep hB0)).mono ?_
  rintro e w1 ⟨k, m, xo1, nx1, xc1, yo1, ny1, yc1, ko1, kc1, hk, hm, rfl, hp1, hS1, hG1⟩
  have HK2 := HKF.out k m hk hm
  have hkl := tf_le x y a b c d
  have hml := tb_le x y (a + k) b (c + k) d
  rw [← hk] at hkl
  rw [← hm] at hml
  have hQ1 := hQ0.keep hG1 (by simp; omega)
  have hG1' : w.grownBy w1 (some g) := (low_grown hB0 _).trans hG1
  clear hk hm HKF hS hB0 hQ0 hG1
  obtain ⟨A, hA⟩ : ∃ A, a + k = A := ⟨_, rfl⟩
  obtain ⟨C, hC⟩ : ∃ C, c + k = C := ⟨_, rfl⟩
  obtain ⟨b1, hb1⟩ : ∃ B, b - m = B := ⟨_, rfl⟩
  obtain ⟨d1, hd1⟩ : ∃ D, d - m = D := ⟨_, rfl⟩
  obtain ⟨K1, hK1⟩ : ∃ K1, wrk K (fp a c k ++ bp b d m) = K1 := ⟨_, rfl⟩
  rw [hK1] at hS1 HK2
  rw [hA, hC, hb1, hd1] at HK2 hp1
  rw [hC]
  clear hA hC hb1 hd1 hK1 hkl hml hp
  have hAb := hp1.eb
  have hCd := hp1.ed
  have hbx := hp1.bx
  have hdy := hp1.dy
  rw [smid_cut bound x y _ A b1 C d1 (by omega) (by omega) hbx hdy] at HK2
  obtain ⟨P, hP⟩ : ∃ P, nx1 * ny1 = P := ⟨_, rfl⟩
  obtain ⟨M, hM⟩ : ∃ M, max 0 bound = M := ⟨_, rfl⟩
  have hPi : (nx1 : Int) * (ny1 : Int) = (P : Int) := by rw [← hP]; simp
  have hPb : P ≤ 4096 * 4096 := by rw [← hP]; exact Nat.mul_le_mul (by omega) (by omega)
  have HK3 : Hid (wrk K1 (if (P : Int) ≤ M then lp A C (kp 0 (sub x A b1) (sub y C d1)) else lp A C (gdy (sub y C d1) 64 0 (sub x A b1))) = KF) := (by
    show _ = _
    rw [show b1 - A = nx1 by omega, show d1 - C = ny1 by omega, hPi, hM] at HK2
    exact HK2)
  have hmax : ∀ w : World, (Builtin.max_ #[3, 3] 3 #[.int .i64 bound, .int .i64 0]).run Tryz.prog w = .ok (.int .i64 M) w := by
    intro w
    rw [run_max_int2, ← hM]
    congr 2
    split <;> omega
  clear HK2 hP
  obtain ⟨c0, c1, c2, c3⟩ := hQ1.cells
  have f0 := hQ1.frozen
  have hQ2 := hQ1.put (.slice xo1 nx1 xc1) (.slice yo1 ny1 yc1) (.int .i64 (C : Int)) (.slice ko1 nx1 kc1)
  have hgw := hS1.low.size
  have hgl := hS1.lt
  have hS2 := ls_other (ls_other (ls_other (ls_other hS1 (g := w.heap.size) (by omega) (by omega) 0 (.slice xo1 nx1 xc1)) (g := w.heap.size) (by omega) (by omega) 1 (.slice yo1 ny1 yc1)) (g := w.heap.size) (by omega) (by omega) 2 (.int .i64 (C : Int))) (g := w.heap.size) (by omega) (by omega) 3 (.slice ko1 nx1 kc1)
  have hG2 := grown_new (grown_new (grown_new (grown_new hG1' (B := w.heap.size) (by omega) 0 (.slice xo1 nx1 xc1)) (B := w.heap.size) (by omega) 1 (.slice yo1 ny1 yc1)) (B := w.heap.size) (by omega) 2 (.int .i64 (C : Int))) (B := w.heap.size) (by omega) 3 (.slice ko1 nx1 kc1)
  obtain ⟨W2, hW2⟩ : ∃ W2, (((w1.setCell ⟨w.heap.size, 0, none⟩ (.slice xo1 nx1 xc1)).setCell ⟨w.heap.size, 1, none⟩ (.slice yo1 ny1 yc1)).setCell ⟨w.heap.size, 2, none⟩ (.int .i64 (C : Int))).setCell ⟨w.heap.size, 3, none⟩ (.slice ko1 nx1 kc1) = W2 := ⟨_, rfl⟩
  rw [hW2] at hQ2 hS2 hG2
  have hbd : W2.cell? ⟨Bf, 0, none⟩ = some (.int .i64 bound) := by
    have : Bf < W0.heap.size := by
      rcases Nat.lt_or_ge Bf W0.heap.size with h | h
      · exact h
      · unfold World.cell? at hf0
        rw [Array.getElem?_eq_none h] at hf0
        cases hf0
    rw [World.cell?_of_block (w := W0) (hS2.low.block Bf this)]
    exact hf0
  unfold pzV
  obtain ⟨q0, q1, q2, q3⟩ := hQ2.cells
  by_cases hle : (P : Int) ≤ M
  · have HK4 : Hid (wrk K1 (lp A C (kp 0 (sub x A b1) (sub y C d1))) = KF) := (by
      show _ = _
      have := HK3.out
      rw [if_pos hle] at this
      exact this)
    clear HK3
    go_wp2_with fail
    clear hW2
    refine (KeepMost_f x y W0 W2 g K1 A b1 C d1 xo1 nx1 xc1 yo1 ny1 yc1 ko1 kc1 hp1 hxl hyl hS2 KF HK4).mono ?_
    rintro e w6 ⟨rfl, hS6, hG6⟩
    have hG7 := hG2.trans hG6
    go_wp2
    go_end0
    exact ⟨rfl, hS6, hG7⟩
  · obtain ⟨X, hX⟩ : ∃ X, sub x A b1 = X := ⟨_, rfl⟩
    obtain ⟨Y, hY⟩ : ∃ Y, sub y C d1 = Y := ⟨_, rfl⟩
    obtain ⟨G, hG⟩ : ∃ G, gdy Y 64 0 X = G := ⟨_, rfl⟩
    have hXl : X.length = nx1 := by rw [← hX, sub_length x A b1 hbx]; omega
    have hYl : Y.length = ny1 := by rw [← hY, sub_length y C d1 hdy]; omega
    have hx3 : HI W2.drew (.slice xo1 nx1 xc1) X := by
      unfold HI
      rw [hXl, ← hX]
      exact Holds.keep hp1.hx (fun q hq => hS2.low.block q hq)
    have hy3 : HI W2.drew (.slice yo1 ny1 yc1) Y := by
      unfold HI
      rw [hYl, ← hY]
      exact Holds.keep hp1.hy (fun q hq => hS2.low.block q hq)
    have HG : Hid (gdy Y 64 0 X = G) := hG
    have HGl : Hid (G.length = nx1) := (by show _ = _; rw [← hG, gdy_length, hXl])
    have HGv : Hid (Vk 0 ny1 G) := (by
      have := gdy_vk Y 64 X 0
      rw [hG, hYl] at this
      exact this)
    have HX : Hid (X.length ≤ 1048576 ∧ Y.length ≤ 1048576) := (by refine ⟨?_, ?_⟩ <;> omega)
    have HK4 : Hid (wrk K1 (lp A C G) = KF) := (by
      show _ = _
      have := HK3.out
      rw [if_neg hle, hX, hY, hG] at this
      exact this)
    have hnx1 : A + nx1 ≤ x.length := by omega
    have hny1 : C + ny1 ≤ 4096 := by omega
    have hgW : g < W2.drew.heap.size := hS2.lt.2
    have hgw2 : g ≠ w.heap.size := by omega
    have hle' : M < (P : Int) := by omega
    have hle2 : decide ((P : Int) ≤ M) = false := decide_eq_false hle
    clear HK3 hG hX hY
    go_wp2_with fail
    clear hW2 q0 q1 q2 q3 c0 c1 c2 c3
    refine wp_region_noPanic ?_
    refine wp_region_held_drew (S := fun u => Qbx u w.heap.size (.slice xo1 nx1 xc1) (.slice yo1 ny1 yc1) (.int .i64 (C : Int)) (.slice ko1 nx1 kc1)) (by kernel_rfl) (hQ2.drewN 1) (fun hHeld => ?_)
    refine go_take 0 17 _ (.agg #[.slice xo1 nx1 xc1, .slice yo1 ny1 yc1, .int .i64 (C : Int), .slice ko1 nx1 kc1]) rfl (by kernel_rfl) (by kernel_rfl) (by kernel_rfl) (by kernel_rfl) (fun _ _ _ h => h) (Or.inl ⟨by kernel_rfl, fun u hu => load_pz hu (.tmp 2) (by kernel_rfl) (by kernel_rfl)⟩) hHeld ?_
    simp only [Act.put, List.setIfInBounds_toArray, List.set_cons_zero, List.set_cons_succ]
    refine go_take 1 18 _ (.pointer (some ⟨w.heap.size, 0, none⟩)) rfl (by kernel_rfl) (by kernel_rfl) (by kernel_rfl) (by kernel_rfl) (fun _ _ _ h => h) (Or.inl ⟨by kernel_rfl, fun u hu => by kernel_rfl⟩) hHeld ?_
    simp only [Act.put, List.setIfInBounds_toArray, List.set_cons_zero, List.set_cons_succ]
    refine go_take 2 19 _ (.slice xo1 nx1 xc1) rfl (by kernel_rfl) (by kernel_rfl) (by kernel_rfl) (by kernel_rfl) (fun _ _ _ h => h) (Or.inl ⟨by kernel_rfl, fun u hu => load_row hu.cells.1 (.tmp 18) (by kernel_rfl) (by kernel_rfl)⟩) hHeld ?_
    simp only [Act.put, List.setIfInBounds_toArray, List.set_cons_zero, List.set_cons_succ]
    refine go_take 3 20 _ (.pointer (some ⟨w.heap.size, 1, none⟩)) rfl (by kernel_rfl) (by kernel_rfl) (by kernel_rfl) (by kernel_rfl) (fun _ _ _ h => h) (Or.inl ⟨by kernel_rfl, fun u hu => by kernel_rfl⟩) hHeld ?_
    simp only [Act.put, List.setIfInBounds_toArray, List.set_cons_zero, List.set_cons_succ]
    refine go_take 4 21 _ (.slice yo1 ny1 yc1) rfl (by kernel_rfl) (by kernel_rfl) (by kernel_rfl) (by kernel_rfl) (fun _ _ _ h => h) (Or.inl ⟨by kernel_rfl, fun u hu => load_row hu.cells.2.1 (.tmp 20) (by kernel_rfl) (by kernel_rfl)⟩) hHeld ?_
    simp only [Act.put, List.setIfInBounds_toArray, List.set_cons_zero, List.set_cons_succ]
    refine go_callE 5 22 _ rfl (by kernel_rfl) (by kernel_rfl) (by kernel_rfl) 79 (.func 79) #[.tmp 19, .tmp 21, .const (.int .i64 64)] #[35, 35, 3] (by kernel_rfl) #[] (by kernel_rfl) #[.slice xo1 nx1 xc1, .slice yo1 ny1 yc1, .int .i64 64] (by kernel_rfl) (enters_of Tryz.func79 (by kernel_rfl) rfl) _ (greedy_held HX.out hXl hx3 hy3 HG hHeld) ?_
    rintro _ u5 hHeld ⟨zo, zc, rfl, hO5, hL5⟩
    simp only [Act.put, List.setIfInBounds_toArray, List.set_cons_zero, List.set_cons_succ]
    have hgB : g < W2.drew.heap.size := hgW
    have hS5 := (hS2.keep (Below.dN (Below.refl _ W2) 1)).keep hL5
    have hG5 := hG2.trans (low_grown ((Below.dN (Below.refl W2.heap.size W2) 1).trans hL5) (some g))
    refine go_callE 6 23 _ rfl (by kernel_rfl) (by kernel_rfl) (by kernel_rfl) 78 (.func 78) #[.tmp 17, .tmp 22] #[110, 35] (by kernel_rfl) #[] (by kernel_rfl) #[.agg #[.slice xo1 nx1 xc1, .slice yo1 ny1 yc1, .int .i64 (C : Int), .slice ko1 nx1 kc1], .slice zo nx1 zc] (by kernel_rfl) (enters_of Tryz.func78 (by kernel_rfl) rfl) _ (keepAt_held (by have := hp1.at'; exact this) hnx1 hny1 hxl HGl.out hO5 hgB HGv.out hS5 HK4 hHeld hgw2) ?_
    rintro _ u6 hHeld ⟨rfl, hS6, hG6⟩
    simp only [Act.put, List.setIfInBounds_toArray, List.set_cons_zero, List.set_cons_succ]
    refine wpAnyH_done (by kernel_rfl) ?_ _
    refine NoPanic.normal ?_
    have hG7 := hG5.trans hG6
    go_wp2
    go_end0
    exact ⟨rfl, hS6, hG7⟩
set_option maxRecDepth 10000 in
set_option maxHeartbeats 2000000 in
theorem spDiff_f (x y : List Int) (bound : Int) (vx vy : Value) (w : World) (hx : HI w vx x) (hy : HI w vy y) (hxl : x.length ≤ 4096) (hyl : y.length ≤ 4096) (L : List Ch) (hL : Hid (mkL (sKeep bound x y) y.length = L)) :
    Calls Tryz.prog 50 #[vx, vy, .int .i64 bound] w fun e w' => ∃ v', e = .returned (.tuple #[v', .int .i64 0]) ∧ HCh w' v' L ∧ Below w.heap.size w w' := by
  obtain ⟨xo, xc, rfl⟩ := Holds.form hx
  obtain ⟨yo, yc, rfl⟩ := Holds.form hy
  obtain ⟨KF, hKF⟩ : ∃ KF, sKeep bound x y = KF := ⟨_, rfl⟩
  have HK : Hid (Kpt x y KF) := (by rw [← hKF]; exact sKeep_kpt bound x y)
  have HF : Hid (wrk (List.replicate x.length (-1)) (pcs (smid bound x y) x y (x.length + 1) 0 x.length 0 y.length) = KF) := hKF
  rw [hKF] at hL
  clear hKF
  have hW1 : Below w.heap.size w (w.alloc (.cells #[.int .i64 bound] 3)) := (Below.refl _ w).alloc (Nat.le_refl _) _
  have hf0 : (w.alloc (.cells #[.int .i64 bound] 3)).cell? ⟨w.heap.size, 0, none⟩ = some (.int .i64 bound) := by
    rw [Lib.cell_of_heap (_root_.Go.heap_alloc_new w _)]
    rfl
  go_enter Tryz.func50, Tryz.ntmps50
  go_wp2_with fail
  refine (pDiff_f x y _ _ _ (HI.keep hx hW1 (Nat.le_refl _)) (HI.keep hy hW1 (Nat.le_refl _)) hxl hyl 77 #[.pointer (some ⟨w.heap.size, 0, none⟩)] (enters_of Tryz.func77 (by kernel_rfl) rfl) KF HK (fun u g xo xc yo yc hS hp => sfind_f x y _ g w.heap.size bound hf0 hxl hyl x.length u _ hS 0 x.length 0 y.length _ _ _ _ _ _ _ _ hp KF HF) L hL).mono ?_
  rintro e w2 ⟨v2, rfl, hv2, hB2⟩
  have hB := hW1.trans (hB2.mono (by simp))
  clear hf0
  go_wp2
  go_ret2
  exact ⟨_, rfl, hv2, hB⟩
set_option maxHeartbeats 2000000 in
theorem spDiff_long (x y : List Int) (bound : Int) (vx vy : Value) (w : World) (hx : HI w vx x) (hy : HI w vy y) (hl : 4096 < x.length ∨ 4096 < y.length) :
    Calls Tryz.prog 50 #[vx, vy, .int .i64 bound] w fun e w' => e = .returned (.tuple #[.slice none 0 0, .int .i64 9]) ∧ Below w.heap.size w w' := by
  obtain ⟨xo, xc, rfl⟩ := Holds.form hx
  obtain ⟨yo, yc, rfl⟩ := Holds.form hy
  have HL : Hid (4096 < x.length ∨ 4096 < y.length) := hl
  clear hl
  have hW1 : Below w.heap.size w (w.alloc (.cells #[.int .i64 bound] 3)) := (Below.refl _ w).alloc (Nat.le_refl _) _
  go_enter Tryz.func50, Tryz.ntmps50
  go_wp2_with fail
  refine (pDiff_long x y _ _ _ _ (HI.keep hx hW1 (Nat.le_refl _)) (HI.keep hy hW1 (Nat.le_refl _)) HL.out).mono ?_
  rintro e w2 ⟨rfl, rfl⟩
  go_wp2
  go_ret2
  exact ⟨rfl, hW1⟩
end Go.Proofs.YtjhanfiohfakoaaGreatDoor

/- Greedy from the last place down, as the reference goes: plain. -/
set_option maxRecDepth 20000
namespace Go.Proofs.YtjhanfiohfakoaaGreatDoor

/-- the least place from j on that will do, or -1 -/
def atF (c : Int) (y : List Int) (nx : Nat) (far : Int) (j : Nat) : Int := match (y.drop j).findIdx? (fun z => z == c) with
  | some k => if ((j + k : Nat) : Int) - (nx : Int) < far then ((j + k : Nat) : Int) else -1
  | none => -1
theorem atF_end (c : Int) (y : List Int) (nx : Nat) (far : Int) : atF c y nx far y.length = -1 := by
  unfold atF
  rw [List.drop_of_length_le (Nat.le_refl _)]
  rfl
theorem atF_step (c : Int) (y : List Int) (nx : Nat) (far : Int) (j : Nat) (hj : j < y.length) : atF c y nx far j = if y[j] = c ∧ (j : Int) - (nx : Int) < far then (j : Int) else atF c y nx far (j + 1) := by
  unfold atF
  rw [List.drop_eq_getElem_cons hj, List.findIdx?_cons]
  by_cases e : y[j] = c
  · rw [if_pos (by simp [e])]
    by_cases f : (j : Int) - (nx : Int) < far
    · rw [if_pos ⟨e, f⟩]
      simp only [Nat.add_zero]
      rw [if_pos f]
    · rw [if_neg (fun h => f h.2)]
      simp only [Nat.add_zero]
      rw [if_neg f]
      split
      · rw [if_neg (by omega)]
      · rfl
  · rw [if_neg (by simp [e]), if_neg (fun h => e h.1)]
    cases h : (y.drop (j + 1)).findIdx? (fun z => z == c) with
    | none => rfl
    | some k =>
      simp only [Option.map_some]
      rw [show j + (k + 1) = j + 1 + k by omega]
theorem atF_gdn (c : Int) (y : List Int) (nx : Nat) (far : Int) : atF c y nx far nx = match gdn c y nx far with
    | some j => (j : Int)
    | none => -1 := by
  unfold atF gdn
  cases h : (y.drop nx).findIdx? (fun z => z == c) with
  | none => rfl
  | some k =>
    simp only
    by_cases f : (k : Int) < far
    · rw [if_pos (by omega), if_pos f]
    · rw [if_neg (by omega), if_neg f]
theorem atF_range (c : Int) (y : List Int) (nx : Nat) (far : Int) (j : Nat) : atF c y nx far j = -1 ∨ ∃ k : Nat, atF c y nx far j = (k : Int) ∧ k < y.length := by
  unfold atF
  split
  · rename_i k hk
    split
    · obtain ⟨h1, _⟩ := List.findIdx?_eq_some_iff_getElem.1 hk
      rw [List.length_drop] at h1
      exact .inr ⟨j + k, rfl, by omega⟩
    · exact .inl rfl
  · exact .inl rfl
/-- one member more -/
theorem gdy_atF (y : List Int) (far : Int) (nx : Nat) (c : Int) (x : List Int) {z : Int} (h : atF c y nx far nx = z) : gdy y far nx (c :: x) = z :: gdy y far (if 0 ≤ z then z.toNat + 1 else nx) x := by
  rw [gdy]
  rw [atF_gdn] at h
  split at h
  · rename_i j hj
    rw [hj]
    subst h
    rw [if_pos (Int.natCast_nonneg j)]
    rfl
  · rename_i hj
    rw [hj]
    subst h
    rw [if_neg (by omega)]
end Go.Proofs.YtjhanfiohfakoaaGreatDoor

/- The reference's Greedy, walked. -/
set_option maxRecDepth 20000
namespace Go.Proofs.YtjhanfiohfakoaaGreatDoor
open Go.RowKit

theorem gdy_hit {y : List Int} {far : Int} {nx k : Nat} {c : Int} {x X G : List Int} (h : X ++ gdy y far nx (c :: x) = G) (hz : atF c y nx far nx = (k : Int)) : X ++ [(k : Int)] ++ gdy y far (k + 1) x = G := by
  rw [← h, gdy_atF y far nx c x hz, if_pos (by omega), List.append_assoc]
  rfl
theorem gdy_miss {y : List Int} {far : Int} {nx : Nat} {c : Int} {x X G : List Int} (h : X ++ gdy y far nx (c :: x) = G) (hz : atF c y nx far nx = -1) : X ++ [-1] ++ gdy y far nx x = G := by
  rw [← h, gdy_atF y far nx c x hz, if_neg (by omega), List.append_assoc]
  rfl

set_option maxRecDepth 10000 in
set_option maxHeartbeats 4000000 in
theorem rGreedy_f (x y : List Int) (far : Int) (vx vy : Value) (w : World) (hx : HI w vx x) (hy : HI w vy y) (hxl : x.length ≤ 65536) (hyl : y.length ≤ 65536) (G : List Int) (hG : Hid (gdy y far 0 x = G)) :
    Calls Tryz.prog 40 #[vx, vy, .int .i64 far] w fun e w' => ∃ zo zc, e = .returned (.slice zo x.length zc) ∧ w'.ownsRow w.heap.size 3 1 (.slice zo x.length zc) x.length (icells G) ∧ Below w.heap.size w w' := by
  obtain ⟨xo, xc, rfl⟩ := Holds.form hx
  obtain ⟨yo, yc, rfl⟩ := Holds.form hy
  have HW0 : Hid (([] : List Int) ++ gdy y far 0 (x.drop 0) = G) := (by
    show _ = _
    rw [List.drop_zero, List.nil_append]
    exact hG.out)
  clear hG
  go_enter Tryz.func40, Tryz.ntmps40
  go_wp2
  go_loopw [7, 8, 9] (fun kv fv iv wr => ∃ (i nx : Nat) (X : List Int), i ≤ x.length ∧ nx ≤ y.length ∧ (∃ oo oc, kv = .slice oo i oc) ∧ Hid (X.length = i) ∧ fv = .int .i64 nx ∧ iv = .int .i64 i ∧ Below w.heap.size w wr ∧ wr.ownsRow w.heap.size 3 1 kv i (icells X) ∧ Hid (X ++ gdy y far nx (x.drop i) = G)) (fun _ _ iv _ => x.length - (intOf iv).toNat)
  case atStart => exact ⟨0, 0, [], Nat.zero_le _, Nat.zero_le _, ⟨_, _, rfl⟩, rfl, rfl, rfl, Below.refl _ w, World.ownsRow_nil _ _ _ _, HW0⟩
  case round =>
    clear HW0
    obtain ⟨i, nx, X, hi, hnx, ⟨oo, oc, rfl⟩, hXi, rfl, rfl, hB, hO, HW⟩ := hrel
    by_cases hlt : i < x.length
    · obtain ⟨c, hc⟩ : ∃ c, x[i] = c := ⟨_, rfl⟩
      have HC : Hid (x[i]'hlt = c) := hc
      have HW1 : Hid (X ++ gdy y far nx (c :: x.drop (i + 1)) = G) := (by
        have := HW.out
        rw [List.drop_eq_getElem_cons hlt, hc] at this
        exact this)
      clear hc HW
      have i1 : 0 ≤ (i : Int) := by omega
      have i2 : (i : Int) < (x.length : Int) := by omega
      go_wp2
      go_loopw [10, 11] (fun av jv wi => ∃ (j : Nat), nx ≤ j ∧ j ≤ y.length ∧ jv = .int .i64 ((j : Int) - 1) ∧ av = .int .i64 (atF c y nx far j) ∧ Below w.heap.size w wi ∧ wi.ownsRow w.heap.size 3 1 (.slice oo i oc) i (icells X)) (fun _ jv _ => (intOf jv + 1).toNat)
      case atStart => exact ⟨y.length, hnx, Nat.le_refl _, by go_num, by rw [atF_end], hB, hO⟩
      case round =>
        clear hB hO
        obtain ⟨j, hj1, hj2, rfl, rfl, hB, hO⟩ := hrel
        by_cases hjn : nx < j
        · obtain ⟨p, rfl⟩ : ∃ p, j = p + 1 := ⟨j - 1, by omega⟩
          have n0 : (((p + 1 : Nat) : Int) - 1) = (p : Int) := by omega
          rw [n0]
          have n1 : IntKind.i64.wrap ((p : Int) - (nx : Int)) = (p : Int) - (nx : Int) := by rw [IntKind.wrap_i64]; omega
          have j1 : (nx : Int) ≤ (p : Int) := by omega
          have j2 : 0 ≤ (p : Int) := by omega
          have j3 : (p : Int) < (y.length : Int) := by omega
          obtain ⟨xb, xf, rfl, _, hqx⟩ := HI.at (HI.keep hx hB (Nat.le_refl _)) (by omega)
          obtain ⟨yb, yf, rfl, _, hqy⟩ := HI.at (HI.keep hy hB (Nat.le_refl _)) (by omega)
          have x0 := hqx i hlt
          rw [HC.out] at x0
          have y0 := hqy p (by omega)
          obtain ⟨d, hd⟩ : ∃ d, y[p] = d := ⟨_, rfl⟩
          rw [hd] at y0
          have HS : Hid (atF c y nx far p = if d = c ∧ (p : Int) - (nx : Int) < far then (p : Int) else atF c y nx far (p + 1)) := (by
            rw [← hd]
            exact atF_step c y nx far p (by omega))
          clear hqx hqy hd
          generalize atF c y nx far (p + 1) = z at *
          by_cases hdc : d = c
          · subst hdc
            by_cases hpf : (p : Int) - (nx : Int) < far
            · have HS2 : Hid (atF d y nx far p = (p : Int)) := (by
                rw [if_pos ⟨rfl, hpf⟩] at HS
                exact HS)
              clear HS
              go_wp2_with fail
              go_quiet (fail)
              go_wp2
              go_roundw
              case rel => exact ⟨p, by omega, by omega, by go_num, by rw [HS2.out], Below.dN hB _, hO⟩
              case measure => simp [intOf]
            · have HS2 : Hid (atF d y nx far p = z) := (by
                rw [if_neg (fun h => hpf h.2)] at HS
                exact HS)
              have hpf' : decide ((p : Int) - (nx : Int) < far) = false := decide_eq_false hpf
              clear HS
              go_wp2_with fail
              go_quiet (fail)
              go_wp2
              go_roundw
              case rel => exact ⟨p, by omega, by omega, by go_num, by rw [HS2.out], Below.dN hB _, hO⟩
              case measure => simp [intOf]
          · have HS2 : Hid (atF c y nx far p = z) := (by
              rw [if_neg (fun h => hdc h.1)] at HS
              exact HS)
            have e1 : (d == c) = false := by simpa using hdc
            clear HS
            go_wp2_with fail
            go_quiet (fail)
            go_wp2
            go_roundw
            case rel => exact ⟨p, by omega, by omega, by go_num, by rw [HS2.out], Below.dN hB _, hO⟩
            case measure => simp [intOf]
        · obtain rfl : j = nx := by omega
          have hsz := hB.size
          have hr := atF_range c y j far j
          obtain ⟨z, hz⟩ : ∃ z, atF c y j far j = z := ⟨_, rfl⟩
          rw [hz] at hr ⊢
          have j1 : ¬ ((j : Int) ≤ (j : Int) - 1) := by omega
          have j2 : decide ((j : Int) ≤ (j : Int) - 1) = false := decide_eq_false j1
          have HZ : Hid (atF c y j far j = z) := hz
          clear hz
          rcases hr with rfl | ⟨k, rfl, hk⟩
          · have HW2 := (gdy_miss HW1.out HZ.out : Hid _)
            go_wp2_with (at_builtin; refine wpList_append_h _ (by kernel_rfl) (.tmp 43) (.tmp 45) 35 3 (.int .i64 0) 1 8 rfl Tryz.underlying35 infoInt rfl (by decide) (by decide) w.heap.size _ _ _ rfl (hO.alloc _) _ 1 (icells [-1]) rfl (new_holds _ _ _ _ _ (by decide)) rfl (icells_one _) (by omega) (by simp; omega) ?_)
            intro v2 w2 hown2 hgrow2
            have hB2 : Below w.heap.size w w2 := (hB.alloc (by omega) _).grown hgrow2 (by simp; omega) (fun _ hj => owns_ge hO hj)
            rw [← icells_append] at hown2
            obtain ⟨oo2, oc2, rfl⟩ := (holds_of hown2).form
            clear hgrow2
            go_wp2
            go_roundw
            case rel => exact ⟨i + 1, j, X ++ [-1], by omega, hnx, ⟨_, _, rfl⟩, (by show _ = _; rw [List.length_append, hXi.out]; rfl), by go_num, by go_num, hB2, hown2, HW2⟩
            case measure => simp [intOf]; omega
          · have HW2 := (gdy_hit HW1.out HZ.out : Hid _)
            have k1 : (0 : Int) ≤ (k : Int) := by omega
            go_wp2_with (at_builtin; refine wpList_append_h _ (by kernel_rfl) (.tmp 43) (.tmp 45) 35 3 (.int .i64 0) 1 8 rfl Tryz.underlying35 infoInt rfl (by decide) (by decide) w.heap.size _ _ _ rfl (hO.alloc _) _ 1 (icells [(k : Int)]) rfl (new_holds _ _ _ _ _ (by decide)) rfl (icells_one _) (by omega) (by simp; omega) ?_)
            intro v2 w2 hown2 hgrow2
            have hB2 : Below w.heap.size w w2 := (hB.alloc (by omega) _).grown hgrow2 (by simp; omega) (fun _ hj => owns_ge hO hj)
            rw [← icells_append] at hown2
            obtain ⟨oo2, oc2, rfl⟩ := (holds_of hown2).form
            clear hgrow2
            go_wp2
            go_roundw
            case rel => exact ⟨i + 1, k + 1, X ++ [(k : Int)], by omega, by omega, ⟨_, _, rfl⟩, (by show _ = _; rw [List.length_append, hXi.out]; rfl), by go_num, by go_num, hB2, hown2, HW2⟩
            case measure => simp [intOf]; omega
    · obtain rfl : i = x.length := by omega
      have e : X = G := by
        have := HW.out
        rw [List.drop_of_length_le (Nat.le_refl _), gdy, List.append_nil] at this
        exact this
      subst e
      clear HW
      go_wp2
      go_ret
      exact ⟨_, _, rfl, hO, hB⟩
end Go.Proofs.YtjhanfiohfakoaaGreatDoor
