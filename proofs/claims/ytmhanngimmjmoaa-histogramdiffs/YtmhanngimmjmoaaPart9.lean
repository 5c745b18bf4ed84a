/-
  Texts that belong together, joined: HiPi, PaRow, PaOp, HiDf.
-/
import Derived.Test.YtmhanngimmjmoaaPart8
import Derived.Laws.EntriesVeiled

/- The reference's piece and Diff of the layer histogram, walked. -/
namespace Go.Proofs.Ytmhanngimmjmoaa
open Go.RowKit
attribute [local simp] low_drew

theorem exec_slB {u : World} {ao ao' : Option Addr} {n cap l h n' c' : Nat} (hr : ∀ u : World, (Instr.slice 22 (.slice ao n cap) (some (.int .i64 (l : Int))) (some (.int .i64 (h : Int))) none).run Try.prog u = .ok (.slice ao' n' c') u) {op : Oper} (x y z : Operand) (ho : op.op = .slice 22 x (some y) (some z) none) {ev : Operand → Value} (hx : ev x = .slice ao n cap) (hy : ev y = .int .i64 (l : Int)) (hz : ev z = .int .i64 (h : Int)) :
    (execOp ev op).run Try.prog u = .ok (.value (.slice ao' n' c')) u := by
  have h2 := run_sliceAt_slice (P := Try.prog) (w := u) 22 (.slice ao n cap) (some (.int .i64 (l : Int))) (some (.int .i64 (h : Int))) none (by kernel_rfl)
  simp only [execOp, ho, hx, hy, hz, Option.map_some, Option.map_none, Sem.run_bind, h2, hr u, Result.andThen_ok, Sem.run_pure]
theorem exec_st4 {u : World} {B : Nat} {r0 : Hr} (h : Gbx u B r0) {a b c d : Int} {op : Oper} (x l : Operand) (ho : op.op = .store 53 x l) {ev : Operand → Value} (hx : ev x = .pointer (some ⟨B, 0, none⟩)) (hl : ev l = .agg #[.int .i64 a, .int .i64 b, .int .i64 c, .int .i64 d]) :
    (execOp ev op).run Try.prog u = .ok .skip ((((u.setCell ⟨B, 0, none⟩ (.int .i64 a)).setCell ⟨B, 1, none⟩ (.int .i64 b)).setCell ⟨B, 2, none⟩ (.int .i64 c)).setCell ⟨B, 3, none⟩ (.int .i64 d)) := by
  obtain ⟨c0, c1, c2, c3⟩ := h.cells
  have fz := h.frozen
  simp only [execOp, ho, hx, hl]
  go_simp
theorem rbest_held {x y : List Int} {vx vy : Value} {W u : World} {o : Option Hr} {v : Value} (hx : HI u vx x) (hy : HI u vy y) (hxl : x.length ≤ 4096) (hyl : y.length ≤ 4096) (ho : Hid (best x y = o)) (hv : bestV o = v) (hL : Low W u) :
    Calls Try.prog 23 (#[vx, vy] ++ #[]) u fun e w' => ∃ v', e = .returned v' ∧ Low W w' ∧ (v' = v ∧ Below u.heap.size u w') := by
  refine (rBest_f x y vx vy u hx hy hxl hyl o ho).mono ?_
  rintro e w' ⟨rfl, hb⟩
  exact ⟨_, rfl, Below.trans hL (hb.mono (Below.size hL)), hv, hb⟩

theorem fp_snoc2 (a c k : Nat) : fp a c (k + 1) = fp a c k ++ [⟨(a + k : Nat), (c + k : Nat)⟩] := by
  induction k generalizing a c with
  | zero => rfl
  | succ k ih =>
    rw [fp, ih (a + 1) (c + 1), fp, List.cons_append, show a + 1 + k = a + (k + 1) by omega, show c + 1 + k = c + (k + 1) by omega]
/-- a call and something made: either may come first -/
theorem go_callVal {P : Program} {S : World → Prop} {md : Region.Mode} {ops : Array Oper} {Q : Exit → Act → World → Prop} {fuel : Nat} {listed : Array Bool} {A : Act} {w : World}
    (i d : Nat) (op : Oper) (j e : Nat) (oq : Oper) (hi : ops[i]? = some op) (hd : op.dst = some d) (hj : ops[j]? = some oq) (he : oq.dst = some e) (hr : Region.ready md ops listed = [i, j]) (hwt : Region.wanted op (yielded ops A.tmps) = true) (hwq : Region.wanted oq (yielded ops A.tmps) = true)
    (F : Nat) (x : Operand) (xs : Array Operand) (ts : Array TypeId) (ho : op.op = .call { callee := .value x, args := xs, argTypes := ts })
    (cap : Array Value) (hxv : A.eval x = .func (.func F) #[] cap) (args : Array Value) (hx : xs.map A.eval = args) (hen : ∀ args w, (callFunc F args).run P w = .ok (.enter F args) w) (R : Value → World → Prop)
    (hc : Calls P F (args ++ cap) w fun e w' => ∃ v, e = .returned v ∧ S w' ∧ R v w')
    (vq : Value) (wq : World) (hq : (execOp A.eval oq).run P w = .ok (.value vq) wq) (hS : S wq)
    (h : ∀ v w', S w' → R v w' → wpAnyH P md ops Q S fuel (listed.setIfInBounds i true) (A.put (some d) v) w')
    (h2 : wpAnyH P md ops Q S fuel (listed.setIfInBounds j true) (A.put (some e) vq) wq) :
    wpAnyH P md ops Q S (fuel + 1) listed A w := by
  refine wpAnyH_ready hr (by simp) (AllReadyH.cons hi (fun K hK => ?_) (AllReadyH.cons hj (fun K hK => ?_) AllReadyH.nil))
  · refine step_want hwt ?_
    unfold Oper.wp
    have e : (execOp A.eval op).run P w = .ok (.enter F (args ++ cap)) w := by
      have h1 := hen (args ++ cap) w
      simp only [execOp, ho, resolve, invoke]
      simp only [hxv, Deferred.ofValue, Sem.run_bind, Sem.run_pure, Result.andThen_ok, hx, Array.empty_append]
      exact h1
    rw [e, Oper.upon_enter]
    refine hc.mono ?_
    rintro e w' ⟨v, rfl, hb, hR⟩
    exact hK.out _ _ hb (fun hu => by rw [hd]; exact h v w' hu hR)
  · refine step_want hwq ?_
    unfold Oper.wp
    rw [hq, Oper.upon_value]
    exact hK.out _ _ hS (fun _ => by rw [he]; exact h2)

set_option maxRecDepth 10000 in
set_option maxHeartbeats 8000000 in
theorem rhpiece_f (x y : List Int) (W0 : World) (vx vy : Value) (hx : HI W0 vx x) (hy : HI W0 vy y) (hxl : x.length ≤ 4096) (hyl : y.length ≤ 4096) (f : Nat) : ∀ (w : World) (K : List Int) (_ : Ls W0 W0.heap.size x.length K w) (a b c d : Nat) (_ : a ≤ b) (_ : b ≤ x.length) (_ : c ≤ d) (_ : d ≤ y.length) (_ : b - a < f) (KF : List Int) (_ : Hid (wrk K (pcs (hmid x y) x y f a b c d) = KF)),
    Calls Try.prog 56 #[.slice (some ⟨W0.heap.size, 0, none⟩) x.length x.length, vx, vy, .agg #[.int .i64 (a : Int), .int .i64 (b : Int), .int .i64 (c : Int), .int .i64 (d : Int)]] w fun e w' => e = .returned (.tuple #[]) ∧ Ls W0 W0.heap.size x.length KF w' ∧ w.grownBy w' (some W0.heap.size) := by
  obtain ⟨xo, xc, rfl⟩ := Holds.form hx
  obtain ⟨yo, yc, rfl⟩ := Holds.form hy
  induction f with
  | zero => intro w K hS a b c d hab hb hcd hd hf; omega
  | succ f ih =>
    intro w K hS a b c d hab hb hcd hd hf KF hKF
    have hg := hS.lt.2
    obtain ⟨k, hk⟩ : ∃ k, k = tf x y a b c d := ⟨_, rfl⟩
    obtain ⟨m, hm⟩ : ∃ m, m = tb x y (a + k) b (c + k) d := ⟨_, rfl⟩
    have HKF : Hid (wrk (wrk K (fp a c k ++ bp b d m)) (if a + k < b - m ∧ c + k < d - m then hmid x y (pcs (hmid x y) x y f) (a + k) (b - m) (c + k) (d - m) else []) = KF) := (by
      show _ = _
      rw [← hKF.out, pcs, ends, ← hk, ← hm, wrk_append, wrk_append, wrk_append])
    have hkl := tf_le x y a b c d
    have hml := tb_le x y (a + k) b (c + k) d
    rw [← hk] at hkl
    rw [← hm] at hml
    have hQ0 := Pbox.new w a b c d
    have hB0 := (Below.refl w.heap.size w).alloc (Nat.le_refl _) (.cells #[.int .i64 (a : Int), .int .i64 (b : Int), .int .i64 (c : Int), .int .i64 (d : Int)] 72)
    have HB : Hid (k = tf x y a b c d ∧ m = tb x y (a + k) b (c + k) d) := ⟨hk, hm⟩
    clear hKF hk hm
    go_enter Try.func56, Try.ntmps56
    go_wp2_with fail
    refine (Trim_f x y W0 _ _ _ hx hy hxl hyl K (hS.keep hB0) a b c d hab hb hcd hd (by simp; omega)).mono ?_
    rintro e w1 ⟨k', m', hk', hm', rfl, hS1, hG1⟩
    obtain rfl : k' = k := by rw [hk', HB.out.1]
    obtain rfl : m' = m := by rw [hm', HB.out.2]
    have hQ1 := hQ0.keep hG1 (by simp; omega)
    have hG1' : w.grownBy w1 (some W0.heap.size) := (low_grown hB0 _).trans hG1
    clear hk' hm' HB hS hB0 hQ0 hG1
    obtain ⟨A, hA⟩ : ∃ A, a + k' = A := ⟨_, rfl⟩
    obtain ⟨C, hC⟩ : ∃ C, c + k' = C := ⟨_, rfl⟩
    obtain ⟨b1, hb1⟩ : ∃ B, b - m' = B := ⟨_, rfl⟩
    obtain ⟨d1, hd1⟩ : ∃ D, d - m' = D := ⟨_, rfl⟩
    obtain ⟨K1, hK1⟩ : ∃ K1, wrk K (fp a c k' ++ bp b d m') = K1 := ⟨_, rfl⟩
    rw [hK1] at hS1 HKF
    rw [hA, hC, hb1, hd1] at HKF ⊢
    have hAb : A ≤ b1 := by omega
    have hCd : C ≤ d1 := by omega
    have hbx : b1 ≤ x.length := by omega
    have hdy : d1 ≤ y.length := by omega
    have hf1 : b1 - A ≤ f := by omega
    clear hA hC hb1 hd1 hK1 hkl hml hab hb hcd hd hf
    obtain ⟨c0, c1, c2, c3⟩ := hQ1.cells
    have f0 := hQ1.frozen
    have hQ2 : Pbox ((((w1.setCell ⟨w.heap.size, 0, none⟩ (.int .i64 (A : Int))).setCell ⟨w.heap.size, 1, none⟩ (.int .i64 (b1 : Int))).setCell ⟨w.heap.size, 2, none⟩ (.int .i64 (C : Int))).setCell ⟨w.heap.size, 3, none⟩ (.int .i64 (d1 : Int))) w.heap.size A b1 C d1 := by
      have s1 := heap_setCell_same w1 w.heap.size 0 _ _ (.int .i64 (A : Int)) hQ1
      have s2 := heap_setCell_same _ w.heap.size 1 _ _ (.int .i64 (b1 : Int)) s1
      have s3 := heap_setCell_same _ w.heap.size 2 _ _ (.int .i64 (C : Int)) s2
      exact heap_setCell_same _ w.heap.size 3 _ _ (.int .i64 (d1 : Int)) s3
    have hgw := hS1.low.size
    have hS2 := ls_other (ls_other (ls_other (ls_other hS1 (g := w.heap.size) (by omega) (by omega) 0 (.int .i64 (A : Int))) (g := w.heap.size) (by omega) (by omega) 1 (.int .i64 (b1 : Int))) (g := w.heap.size) (by omega) (by omega) 2 (.int .i64 (C : Int))) (g := w.heap.size) (by omega) (by omega) 3 (.int .i64 (d1 : Int))
    have hG2 := grown_new (grown_new (grown_new (grown_new hG1' (B := w.heap.size) (by omega) 0 (.int .i64 (A : Int))) (B := w.heap.size) (by omega) 1 (.int .i64 (b1 : Int))) (B := w.heap.size) (by omega) 2 (.int .i64 (C : Int))) (B := w.heap.size) (by omega) 3 (.int .i64 (d1 : Int))
    obtain ⟨W2, hW2⟩ : ∃ W2, (((w1.setCell ⟨w.heap.size, 0, none⟩ (.int .i64 (A : Int))).setCell ⟨w.heap.size, 1, none⟩ (.int .i64 (b1 : Int))).setCell ⟨w.heap.size, 2, none⟩ (.int .i64 (C : Int))).setCell ⟨w.heap.size, 3, none⟩ (.int .i64 (d1 : Int)) = W2 := ⟨_, rfl⟩
    rw [hW2] at hQ2 hS2 hG2
    unfold pcV
    by_cases hm0 : A < b1 ∧ C < d1
    · have e1 : ((A : Int) == (b1 : Int)) = false := by simp; omega
      have e2 : ((C : Int) == (d1 : Int)) = false := by simp; omega
      have HK2 : Hid (wrk K1 (hmid x y (pcs (hmid x y) x y f) A b1 C d1) = KF) := (by
        show _ = _
        have := HKF.out
        rw [if_pos hm0] at this
        exact this)
      clear HKF
      obtain ⟨c0, c1, c2, c3⟩ := hQ2.cells
      obtain ⟨X, hX⟩ : ∃ X, sub x A b1 = X := ⟨_, rfl⟩
      obtain ⟨Y, hY⟩ : ∃ Y, sub y C d1 = Y := ⟨_, rfl⟩
      obtain ⟨nx, hnx⟩ : ∃ nx, b1 - A = nx := ⟨_, rfl⟩
      obtain ⟨ny, hny⟩ : ∃ ny, d1 - C = ny := ⟨_, rfl⟩
      have r1 := run_slB xo x.length xc A b1 hAb hbx (hold_cap hx)
      have r2 := run_slB yo y.length yc C d1 hCd hdy (hold_cap hy)
      have hXl : X.length = nx := by rw [← hX, sub_length x A b1 hbx, hnx]
      have hYl : Y.length = ny := by rw [← hY, sub_length y C d1 hdy, hny]
      rw [hnx] at r1
      rw [hny] at r2
      have hxs : ∀ u : World, Low W2 u → HI u (.slice (slF xo xc A) nx (xc - A)) X ∧ HI u (.slice (slF yo yc C) ny (yc - C)) Y := fun u hu => by
        have hlow : Below W0.heap.size W0 u := hS2.low.trans (Below.mono hu hS2.low.size)
        have h1 := hold_sub (HI.keep hx hlow (Nat.le_refl _)) hAb hbx
        have h2 := hold_sub (HI.keep hy hlow (Nat.le_refl _)) hCd hdy
        unfold HI
        rw [hXl, hYl]
        rw [hX, hnx] at h1
        rw [hY, hny] at h2
        exact ⟨h1, h2⟩
      have HX : Hid (X.length ≤ 4096 ∧ Y.length ≤ 4096) := (by refine ⟨?_, ?_⟩ <;> omega)
      obtain ⟨o, ho⟩ : ∃ o, best X Y = o := ⟨_, rfl⟩
      have HO : Hid (best X Y = o) := ho
      have HK4 : Hid (wrk K1 (hsel x y (pcs (hmid x y) x y f) A b1 C d1 o) = KF) := (by
        show _ = _
        have := HK2.out
        rw [hmid, hX, hY, ho] at this
        exact this)
      have HIn : Hid (∀ r, o = some r → 0 < r.N ∧ A + r.X + r.N ≤ b1 ∧ C + r.Y + r.N ≤ d1 ∧ r.R ≤ 4096) := (by
        intro r hr
        have hrun := (best_some (ho.trans hr)).1
        have h2 := run_in (x := x) (y := y) (a := A) (b := b1) (c := C) (d := d1) hbx hdy (by rw [hX, hY]; exact hrun)
        have h3 : r.R ≤ X.length := by
          rw [hrun.r]
          have : ∀ n, rar X r.X n ≤ X.length := by
            intro n
            induction n with
            | zero => exact Nat.le_refl _
            | succ n ih => rw [rar]; omega
          exact this _
        exact ⟨h2.1, h2.2.1, h2.2.2.1, by omega⟩)
      obtain ⟨r, hr⟩ : ∃ r, o.getD ⟨0, 0, 0, 0⟩ = r := ⟨_, rfl⟩
      obtain ⟨fl, hfl⟩ : ∃ fl, o.isSome = fl := ⟨_, rfl⟩
      have HE0 : bestV o = .tuple #[.agg #[.int .i64 (r.X : Int), .int .i64 (r.Y : Int), .int .i64 (r.N : Int), .int .i64 (r.R : Int)], .bool fl] := (by unfold bestV; rw [hr, hfl])
      have HRF : Hid (o.getD ⟨0, 0, 0, 0⟩ = r ∧ o.isSome = fl) := ⟨hr, hfl⟩
      clear hr hfl
      obtain ⟨rX, rY, rN, rR⟩ := r
      have HE : Hid (bestV o = .tuple #[.agg #[.int .i64 (rX : Int), .int .i64 (rY : Int), .int .i64 (rN : Int), .int .i64 (rR : Int)], .bool fl]) := HE0
      clear HE0
      generalize slF xo xc A = xo2 at r1 hxs
      generalize slF yo yc C = yo2 at r2 hxs
      generalize xc - A = xc2 at r1 hxs
      generalize yc - C = yc2 at r2 hxs
      clear hX hY hnx hny hXl hYl HK2 ho
      have hcs : ∀ u : World, Low W2 u → u.cell? ⟨w.heap.size, 0, none⟩ = some (.int .i64 (A : Int)) ∧ u.cell? ⟨w.heap.size, 1, none⟩ = some (.int .i64 (b1 : Int)) ∧ u.cell? ⟨w.heap.size, 2, none⟩ = some (.int .i64 (C : Int)) ∧ u.cell? ⟨w.heap.size, 3, none⟩ = some (.int .i64 (d1 : Int)) := fun u hu => (hQ2.low hu).cells
      go_wp2_with fail
      clear hW2 f0 c0 c1 c2 c3
      refine wp_region_noPanic ?_
      refine wp_region_held_drew (S := fun u => Low W2 u) (by kernel_rfl) (Below.dN (Below.refl _ W2) 1) (fun hHeld => ?_)
      refine go_take 0 31 _ (.slice xo x.length xc) rfl (by kernel_rfl) (by kernel_rfl) (by kernel_rfl) (by kernel_rfl) (fun _ _ _ h => h) (Or.inl ⟨by kernel_rfl, fun u hu => by kernel_rfl⟩) hHeld ?_
      simp only [Act.put, List.setIfInBounds_toArray, List.set_cons_zero, List.set_cons_succ]
      refine go_take 1 32 _ (.pointer (some ⟨w.heap.size, 0, none⟩)) rfl (by kernel_rfl) (by kernel_rfl) (by kernel_rfl) (by kernel_rfl) (fun _ _ _ h => h) (Or.inl ⟨by kernel_rfl, fun u hu => by kernel_rfl⟩) hHeld ?_
      simp only [Act.put, List.setIfInBounds_toArray, List.set_cons_zero, List.set_cons_succ]
      refine go_take 2 33 _ (.int .i64 (A : Int)) rfl (by kernel_rfl) (by kernel_rfl) (by kernel_rfl) (by kernel_rfl) (fun _ _ _ h => h) (Or.inl ⟨by kernel_rfl, fun u hu => load_int (hcs u hu).1 (.tmp 32) (by kernel_rfl) (by kernel_rfl)⟩) hHeld ?_
      simp only [Act.put, List.setIfInBounds_toArray, List.set_cons_zero, List.set_cons_succ]
      refine go_take 3 34 _ (.pointer (some ⟨w.heap.size, 1, none⟩)) rfl (by kernel_rfl) (by kernel_rfl) (by kernel_rfl) (by kernel_rfl) (fun _ _ _ h => h) (Or.inl ⟨by kernel_rfl, fun u hu => by kernel_rfl⟩) hHeld ?_
      simp only [Act.put, List.setIfInBounds_toArray, List.set_cons_zero, List.set_cons_succ]
      refine go_take 4 35 _ (.int .i64 (b1 : Int)) rfl (by kernel_rfl) (by kernel_rfl) (by kernel_rfl) (by kernel_rfl) (fun _ _ _ h => h) (Or.inl ⟨by kernel_rfl, fun u hu => load_int (hcs u hu).2.1 (.tmp 34) (by kernel_rfl) (by kernel_rfl)⟩) hHeld ?_
      simp only [Act.put, List.setIfInBounds_toArray, List.set_cons_zero, List.set_cons_succ]
      refine go_take 5 36 _ (.slice xo2 nx xc2) rfl (by kernel_rfl) (by kernel_rfl) (by kernel_rfl) (by kernel_rfl) (fun _ _ _ h => h) (Or.inl ⟨by kernel_rfl, fun u hu => exec_slB r1 (.tmp 31) (.tmp 33) (.tmp 35) (by kernel_rfl) (by kernel_rfl) (by kernel_rfl) (by kernel_rfl)⟩) hHeld ?_
      simp only [Act.put, List.setIfInBounds_toArray, List.set_cons_zero, List.set_cons_succ]
      refine go_take 6 37 _ (.slice yo y.length yc) rfl (by kernel_rfl) (by kernel_rfl) (by kernel_rfl) (by kernel_rfl) (fun _ _ _ h => h) (Or.inl ⟨by kernel_rfl, fun u hu => by kernel_rfl⟩) hHeld ?_
      simp only [Act.put, List.setIfInBounds_toArray, List.set_cons_zero, List.set_cons_succ]
      refine go_take 7 38 _ (.pointer (some ⟨w.heap.size, 2, none⟩)) rfl (by kernel_rfl) (by kernel_rfl) (by kernel_rfl) (by kernel_rfl) (fun _ _ _ h => h) (Or.inl ⟨by kernel_rfl, fun u hu => by kernel_rfl⟩) hHeld ?_
      simp only [Act.put, List.setIfInBounds_toArray, List.set_cons_zero, List.set_cons_succ]
      refine go_take 8 39 _ (.int .i64 (C : Int)) rfl (by kernel_rfl) (by kernel_rfl) (by kernel_rfl) (by kernel_rfl) (fun _ _ _ h => h) (Or.inl ⟨by kernel_rfl, fun u hu => load_int (hcs u hu).2.2.1 (.tmp 38) (by kernel_rfl) (by kernel_rfl)⟩) hHeld ?_
      simp only [Act.put, List.setIfInBounds_toArray, List.set_cons_zero, List.set_cons_succ]
      refine go_take 9 40 _ (.pointer (some ⟨w.heap.size, 3, none⟩)) rfl (by kernel_rfl) (by kernel_rfl) (by kernel_rfl) (by kernel_rfl) (fun _ _ _ h => h) (Or.inl ⟨by kernel_rfl, fun u hu => by kernel_rfl⟩) hHeld ?_
      simp only [Act.put, List.setIfInBounds_toArray, List.set_cons_zero, List.set_cons_succ]
      refine go_take 10 41 _ (.int .i64 (d1 : Int)) rfl (by kernel_rfl) (by kernel_rfl) (by kernel_rfl) (by kernel_rfl) (fun _ _ _ h => h) (Or.inl ⟨by kernel_rfl, fun u hu => load_int (hcs u hu).2.2.2 (.tmp 40) (by kernel_rfl) (by kernel_rfl)⟩) hHeld ?_
      simp only [Act.put, List.setIfInBounds_toArray, List.set_cons_zero, List.set_cons_succ]
      refine go_take 11 42 _ (.slice yo2 ny yc2) rfl (by kernel_rfl) (by kernel_rfl) (by kernel_rfl) (by kernel_rfl) (fun _ _ _ h => h) (Or.inl ⟨by kernel_rfl, fun u hu => exec_slB r2 (.tmp 37) (.tmp 39) (.tmp 41) (by kernel_rfl) (by kernel_rfl) (by kernel_rfl) (by kernel_rfl)⟩) hHeld ?_
      simp only [Act.put, List.setIfInBounds_toArray, List.set_cons_zero, List.set_cons_succ]
      refine go_callVal 12 43 _ 16 8 _ rfl (by kernel_rfl) rfl (by kernel_rfl) (by kernel_rfl) (by kernel_rfl) (by kernel_rfl) 23 (.func 23) #[.tmp 36, .tmp 42] #[22, 22] (by kernel_rfl) #[] (by kernel_rfl) #[.slice xo2 nx xc2, .slice yo2 ny yc2] (by kernel_rfl) (enters_of Try.func23 (by kernel_rfl) rfl) _ (rbest_held (hxs _ hHeld).1 (hxs _ hHeld).2 HX.out.1 HX.out.2 HO HE.out hHeld) (.pointer (some ⟨W2.drew.heap.size, 0, none⟩)) (W2.drew.alloc (.cells #[.int .i64 0, .int .i64 0, .int .i64 0, .int .i64 0] 53)) (by kernel_rfl) (Below.alloc hHeld (Below.size hHeld) _) ?_ ?_
      · rintro _ u12 hHeld ⟨rfl, hcl⟩
        simp only [Act.put, List.setIfInBounds_toArray, List.set_cons_zero, List.set_cons_succ]
        refine go_take 13 30 _ (.tuple #[.agg #[.int .i64 (rX : Int), .int .i64 (rY : Int), .int .i64 (rN : Int), .int .i64 (rR : Int)], .bool fl]) rfl (by kernel_rfl) (by kernel_rfl) (by kernel_rfl) (by kernel_rfl) (fun _ _ _ h => h) (Or.inl ⟨by kernel_rfl, fun u hu => by kernel_rfl⟩) hHeld ?_
        simp only [Act.put, List.setIfInBounds_toArray, List.set_cons_zero, List.set_cons_succ]
        refine go_take 14 44 _ (.agg #[.int .i64 (rX : Int), .int .i64 (rY : Int), .int .i64 (rN : Int), .int .i64 (rR : Int)]) rfl (by kernel_rfl) (by kernel_rfl) (by kernel_rfl) (by kernel_rfl) (fun _ _ _ h => h) (Or.inl ⟨by kernel_rfl, fun u hu => by kernel_rfl⟩) hHeld ?_
        simp only [Act.put, List.setIfInBounds_toArray, List.set_cons_zero, List.set_cons_succ]
        refine go_take 15 45 _ (.bool fl) rfl (by kernel_rfl) (by kernel_rfl) (by kernel_rfl) (by kernel_rfl) (fun _ _ _ h => h) (Or.inl ⟨by kernel_rfl, fun u hu => by kernel_rfl⟩) hHeld ?_
        simp only [Act.put, List.setIfInBounds_toArray, List.set_cons_zero, List.set_cons_succ]
        refine go_val 16 8 _ rfl (by kernel_rfl) (by kernel_rfl) (by kernel_rfl) (.pointer (some ⟨u12.heap.size, 0, none⟩)) (u12.alloc (.cells #[.int .i64 0, .int .i64 0, .int .i64 0, .int .i64 0] 53)) (by kernel_rfl) (Below.alloc hHeld (Below.size hHeld) _) ?_
        simp only [Act.put, List.setIfInBounds_toArray, List.set_cons_zero, List.set_cons_succ]
        have hG0 : Gbx (u12.alloc (.cells #[.int .i64 0, .int .i64 0, .int .i64 0, .int .i64 0] 53)) u12.heap.size ⟨0, 0, 0, 0⟩ := Gbx.new u12 ⟨0, 0, 0, 0⟩
        obtain ⟨Br, hBr⟩ : ∃ Br, u12.heap.size = Br := ⟨_, rfl⟩
        have hBl : W2.heap.size ≤ Br := by rw [← hBr]; exact Below.size hHeld
        replace hHeld : Low W2 (u12.alloc (.cells #[.int .i64 0, .int .i64 0, .int .i64 0, .int .i64 0] 53)) := Below.alloc hHeld (Below.size hHeld) _
        clear hcl
        generalize u12.alloc (.cells #[.int .i64 0, .int .i64 0, .int .i64 0, .int .i64 0] 53) = u13 at hG0 hHeld ⊢
        rw [hBr] at hG0 ⊢
        have hL4 : Low W2 ((((u13.setCell ⟨Br, 0, none⟩ (.int .i64 (rX : Int))).setCell ⟨Br, 1, none⟩ (.int .i64 (rY : Int))).setCell ⟨Br, 2, none⟩ (.int .i64 (rN : Int))).setCell ⟨Br, 3, none⟩ (.int .i64 (rR : Int))) := (((Below.setCell (p := ⟨Br, 0, none⟩) hHeld hBl _).setCell (p := ⟨Br, 1, none⟩) hBl _).setCell (p := ⟨Br, 2, none⟩) hBl _).setCell (p := ⟨Br, 3, none⟩) hBl _
        have hG4 : Gbx ((((u13.setCell ⟨Br, 0, none⟩ (.int .i64 (rX : Int))).setCell ⟨Br, 1, none⟩ (.int .i64 (rY : Int))).setCell ⟨Br, 2, none⟩ (.int .i64 (rN : Int))).setCell ⟨Br, 3, none⟩ (.int .i64 (rR : Int))) Br ⟨rX, rY, rN, rR⟩ := heap_setCell_same _ Br 3 _ _ _ (heap_setCell_same _ Br 2 _ _ _ (heap_setCell_same _ Br 1 _ _ _ (heap_setCell_same u13 Br 0 _ _ _ hG0)))
        refine go_skip 17 _ rfl (by kernel_rfl) (by kernel_rfl) (by kernel_rfl) ((((u13.setCell ⟨Br, 0, none⟩ (.int .i64 (rX : Int))).setCell ⟨Br, 1, none⟩ (.int .i64 (rY : Int))).setCell ⟨Br, 2, none⟩ (.int .i64 (rN : Int))).setCell ⟨Br, 3, none⟩ (.int .i64 (rR : Int))) (exec_st4 hG0 (.tmp 8) (.tmp 44) (by kernel_rfl) (by kernel_rfl) (by kernel_rfl)) (hL4) ?_
        refine go_take 18 9 _ (.bool fl) rfl (by kernel_rfl) (by kernel_rfl) (by kernel_rfl) (by kernel_rfl) (fun _ _ _ h => h) (Or.inl ⟨by kernel_rfl, fun u hu => by kernel_rfl⟩) hL4 ?_
        simp only [Act.put, List.setIfInBounds_toArray, List.set_cons_zero, List.set_cons_succ]
        refine wpAnyH_done (by kernel_rfl) ?_ _
        refine NoPanic.normal ?_
        have hgB : W0.heap.size < Br := by have := hS2.lt; omega
        have hwB : w.heap.size < Br := Nat.lt_of_lt_of_le (Array.getElem?_eq_some_iff.1 hQ2).1 hBl
        have hQ3 := hQ2.low hL4
        have hS3 := hS2.keep hL4
        have hG3 := hG2.trans (low_grown hL4 (some W0.heap.size))
        clear hcs hxs r1 r2 hHeld hG0 hBr hQ2 hS2 hG2 HE HO HX hS1 hG1' hQ1 hL4
        generalize (((u13.setCell ⟨Br, 0, none⟩ (.int .i64 (rX : Int))).setCell ⟨Br, 1, none⟩ (.int .i64 (rY : Int))).setCell ⟨Br, 2, none⟩ (.int .i64 (rN : Int))).setCell ⟨Br, 3, none⟩ (.int .i64 (rR : Int)) = W4 at hG4 hQ3 hS3 hG3 ⊢
        obtain ⟨c0, c1, c2, c3⟩ := hQ3.cells
        obtain ⟨g0, g1, g2, g3⟩ := hG4.cells
        cases o with
        | none =>
          obtain rfl : false = fl := HRF.out.2
          have e : K1 = KF := HK4.out
          subst e
          go_wp2
          (try simp only [Exit.inBlock, Exit.then])
          refine bodyPost_ret (results_none rfl _ _ _) rfl ?_
          exact ⟨rfl, hS3, hG3⟩
        | some r =>
          obtain rfl : true = fl := HRF.out.2
          obtain rfl : r = ⟨rX, rY, rN, rR⟩ := HRF.out.1
          obtain ⟨q1, q2, q3, q4⟩ := HIn.out _ rfl
          simp only at q1 q2 q3 q4 g0 g1 g2 g3
          clear HRF HIn
          by_cases h64 : 64 < rR
          · have e3 : decide ((64 : Int) < (rR : Int)) = true := decide_eq_true (by omega)
            have e4 : decide ((rR : Int) > 64) = true := e3
            have HK5 : Hid (wrk K1 (lp A C (kp 0 (sub x A b1) (sub y C d1))) = KF) := (by
              show _ = _
              have := HK4.out
              rw [hsel, if_pos h64] at this
              exact this)
            clear HK4 h64
            go_wp2_with fail
            refine (Least_f x y W0 _ _ _ hx hy hxl hyl K1 hS3 A b1 C d1 hAb hbx hCd hdy KF HK5).mono ?_
            rintro e w4 ⟨rfl, hS4, hG5⟩
            have hG6 := hG3.trans hG5
            go_wp2
            (try simp only [Exit.inBlock, Exit.then])
            refine bodyPost_ret (results_none rfl _ _ _) rfl ?_
            exact ⟨rfl, hS4, hG6⟩
          · have e3 : decide ((64 : Int) < (rR : Int)) = false := decide_eq_false (by omega)
            have e4 : decide ((rR : Int) > 64) = false := e3
            obtain ⟨u, hu⟩ : ∃ u, A + rX = u := ⟨_, rfl⟩
            obtain ⟨v, hv⟩ : ∃ v, C + rY = v := ⟨_, rfl⟩
            obtain ⟨u2, hu2⟩ : ∃ u2, u + rN = u2 := ⟨_, rfl⟩
            obtain ⟨v2, hv2⟩ : ∃ v2, v + rN = v2 := ⟨_, rfl⟩
            have HK5 : Hid (wrk (wrk (wrk K1 (fp u v rN)) (pcs (hmid x y) x y f A u C v)) (pcs (hmid x y) x y f u2 b1 v2 d1) = KF) := (by
              show _ = _
              have := HK4.out
              rw [hsel, if_neg h64, wrk_append, wrk_append] at this
              simp only [hu, hv, hu2, hv2] at this
              exact this)
            rw [hu, hu2] at q2
            rw [hv, hv2] at q3
            have hAu : A ≤ u := by omega
            have hCv : C ≤ v := by omega
            have huu : u < u2 := by omega
            have hvv : v < v2 := by omega
            have n1 : (A : Int) + (rX : Int) = (u : Int) := by omega
            have n2 : (C : Int) + (rY : Int) = (v : Int) := by omega
            have n3 : IntKind.i64.wrap (u : Int) = (u : Int) := by rw [IntKind.wrap_i64]; omega
            have n4 : IntKind.i64.wrap (v : Int) = (v : Int) := by rw [IntKind.wrap_i64]; omega
            have m1 : (u : Int) + (rN : Int) = (u2 : Int) := by omega
            have m2 : (v : Int) + (rN : Int) = (v2 : Int) := by omega
            have m3 : IntKind.i64.wrap (u2 : Int) = (u2 : Int) := by rw [IntKind.wrap_i64]; omega
            have m4 : IntKind.i64.wrap (v2 : Int) = (v2 : Int) := by rw [IntKind.wrap_i64]; omega
            clear HK4 h64 hu hv
            go_wp2_with fail
            go_big_quiet (fail)
            have hQ4 := hQ3.low (Below.dN (Below.refl _ W4) nq)
            have hS4 := hS3.drewN nq
            have hG5 := grown_drewN hG3 nq
            have hO4 := hG4.low (Below.dN (Below.refl _ W4) nq)
            clear hQ3 hS3 hG3 hG4 c0 c1 c2 c3 g0 g1 g2 g3 n1 n2 n3 n4 e3 e4
            generalize W4.drewN nq = wf at hQ4 hS4 hG5 hO4 ⊢
            go_wp2
            go_loopw [12] (fun iv wr => ∃ i : Nat, i ≤ rN ∧ iv = .int .i64 i ∧ Ls W0 W0.heap.size x.length (wrk K1 (fp u v i)) wr ∧ w.grownBy wr (some W0.heap.size) ∧ Pbox wr w.heap.size A b1 C d1 ∧ Gbx wr Br ⟨rX, rY, rN, rR⟩) (fun iv _ => rN - (intOf iv).toNat)
            case atStart => exact ⟨0, Nat.zero_le _, rfl, hS4, hG5, hQ4, hO4⟩
            case round =>
              clear hQ4 hS4 hG5 hO4
              obtain ⟨i, hi, rfl, hS, hG, hQ, hO⟩ := hrel
              have hwr := hS.low.size
              obtain ⟨c0, c1, c2, c3⟩ := hQ.cells
              obtain ⟨g0, g1, g2, g3⟩ := hO.cells
              simp only at g0 g1 g2 g3
              by_cases hlt : i < rN
              · have hS1 := hS.set (u + i) ((v + i : Nat) : Int)
                have he : (wrk K1 (fp u v i)).set (u + i) ((v + i : Nat) : Int) = wrk K1 (fp u v (i + 1)) := by rw [fp_snoc2, wrk_append]; rfl
                rw [he] at hS1
                have hl := hS.len
                obtain ⟨s, hs⟩ : ∃ s, u + i = s := ⟨_, rfl⟩
                obtain ⟨t, ht⟩ : ∃ t, v + i = t := ⟨_, rfl⟩
                rw [hs, ht] at hS1
                have d0 := hS.at (List.getElem?_eq_getElem (i := s) (by omega))
                generalize (wrk K1 (fp u v i))[s] = z0 at d0
                have f1 := hS.own.frozenAt s
                have hgs := grown_set wr W0.heap.size s (.int .i64 (t : Int))
                have hG1 := hG.trans hgs
                have hQ1 := hQ.keep hgs (by simp; omega)
                have hO1 := hO.keep hgs (by simp; omega)
                have n1 : (u : Int) + (i : Int) = (s : Int) := by omega
                have n2 : (v : Int) + (i : Int) = (t : Int) := by omega
                have n3 : IntKind.i64.wrap (s : Int) = (s : Int) := by rw [IntKind.wrap_i64]; omega
                have n4 : IntKind.i64.wrap (t : Int) = (t : Int) := by rw [IntKind.wrap_i64]; omega
                have i3 : 0 ≤ (s : Int) := by omega
                have i4 : (s : Int) < (x.length : Int) := by omega
                clear hs ht he hS hG hQ hO hgs
                go_wp2
                go_roundw
                case rel => exact ⟨i + 1, by omega, by go_num, hS1, hG1, hQ1, hO1⟩
                case measure => simp [intOf]; omega
              · obtain rfl : i = rN := by omega
                obtain ⟨K2, hK2⟩ : ∃ K2, wrk (wrk K1 (fp u v i)) (pcs (hmid x y) x y f A u C v) = K2 := ⟨_, rfl⟩
                have HA : Hid (wrk (wrk K1 (fp u v i)) (pcs (hmid x y) x y f A u C v) = K2) := hK2
                have HB : Hid (wrk K2 (pcs (hmid x y) x y f u2 b1 v2 d1) = KF) := (by
                  show _ = _
                  have := HK5.out
                  rw [hK2] at this
                  exact this)
                clear hK2 HK5 hu2 hv2
                go_wp2_with fail
                refine (ih wr _ hS A u C v hAu (by omega) hCv (by omega) (by omega) K2 HA).mono ?_
                rintro e w5 ⟨rfl, hS5, hG5⟩
                have hG6 := hG.trans hG5
                have hQ6 := hQ.keep hG5 (by simp; omega)
                have hO6 := hO.keep hG5 (by simp; omega)
                clear hS hG hQ hO hG5 c0 c1 c2 c3 g0 g1 g2 g3
                obtain ⟨c0, c1, c2, c3⟩ := hQ6.cells
                obtain ⟨g0, g1, g2, g3⟩ := hO6.cells
                simp only at g0 g1 g2 g3
                go_wp2_with fail
                refine (ih w5 K2 hS5 u2 b1 v2 d1 (by omega) hbx (by omega) hdy (by omega) KF HB).mono ?_
                rintro e w6 ⟨rfl, hS7, hG7⟩
                have hG8 := hG6.trans hG7
                go_wp2
                go_end0
                exact ⟨rfl, hS7, hG8⟩
      · have hG0 : Gbx (W2.drew.alloc (.cells #[.int .i64 0, .int .i64 0, .int .i64 0, .int .i64 0] 53)) W2.drew.heap.size ⟨0, 0, 0, 0⟩ := Gbx.new W2.drew ⟨0, 0, 0, 0⟩
        obtain ⟨Br, hBr⟩ : ∃ Br, W2.drew.heap.size = Br := ⟨_, rfl⟩
        have hBl : W2.heap.size ≤ Br := by rw [← hBr]; exact Below.size hHeld
        replace hHeld : Low W2 (W2.drew.alloc (.cells #[.int .i64 0, .int .i64 0, .int .i64 0, .int .i64 0] 53)) := Below.alloc hHeld (Below.size hHeld) _
        generalize W2.drew.alloc (.cells #[.int .i64 0, .int .i64 0, .int .i64 0, .int .i64 0] 53) = u12 at hG0 hHeld ⊢
        rw [hBr] at hG0 ⊢
        simp only [Act.put, List.setIfInBounds_toArray, List.set_cons_zero, List.set_cons_succ]
        refine go_callE 12 43 _ rfl (by kernel_rfl) (by kernel_rfl) (by kernel_rfl) 23 (.func 23) #[.tmp 36, .tmp 42] #[22, 22] (by kernel_rfl) #[] (by kernel_rfl) #[.slice xo2 nx xc2, .slice yo2 ny yc2] (by kernel_rfl) (enters_of Try.func23 (by kernel_rfl) rfl) _ (rbest_held (hxs _ hHeld).1 (hxs _ hHeld).2 HX.out.1 HX.out.2 HO HE.out hHeld) ?_
        rintro _ u13 hHeld ⟨rfl, hcl⟩
        simp only [Act.put, List.setIfInBounds_toArray, List.set_cons_zero, List.set_cons_succ]
        replace hG0 := hG0.low hcl
        clear hcl
        refine go_take 13 30 _ (.tuple #[.agg #[.int .i64 (rX : Int), .int .i64 (rY : Int), .int .i64 (rN : Int), .int .i64 (rR : Int)], .bool fl]) rfl (by kernel_rfl) (by kernel_rfl) (by kernel_rfl) (by kernel_rfl) (fun _ _ _ h => h) (Or.inl ⟨by kernel_rfl, fun u hu => by kernel_rfl⟩) hHeld ?_
        simp only [Act.put, List.setIfInBounds_toArray, List.set_cons_zero, List.set_cons_succ]
        refine go_take 14 44 _ (.agg #[.int .i64 (rX : Int), .int .i64 (rY : Int), .int .i64 (rN : Int), .int .i64 (rR : Int)]) rfl (by kernel_rfl) (by kernel_rfl) (by kernel_rfl) (by kernel_rfl) (fun _ _ _ h => h) (Or.inl ⟨by kernel_rfl, fun u hu => by kernel_rfl⟩) hHeld ?_
        simp only [Act.put, List.setIfInBounds_toArray, List.set_cons_zero, List.set_cons_succ]
        refine go_take 15 45 _ (.bool fl) rfl (by kernel_rfl) (by kernel_rfl) (by kernel_rfl) (by kernel_rfl) (fun _ _ _ h => h) (Or.inl ⟨by kernel_rfl, fun u hu => by kernel_rfl⟩) hHeld ?_
        simp only [Act.put, List.setIfInBounds_toArray, List.set_cons_zero, List.set_cons_succ]
        have hL4 : Low W2 ((((u13.setCell ⟨Br, 0, none⟩ (.int .i64 (rX : Int))).setCell ⟨Br, 1, none⟩ (.int .i64 (rY : Int))).setCell ⟨Br, 2, none⟩ (.int .i64 (rN : Int))).setCell ⟨Br, 3, none⟩ (.int .i64 (rR : Int))) := (((Below.setCell (p := ⟨Br, 0, none⟩) hHeld hBl _).setCell (p := ⟨Br, 1, none⟩) hBl _).setCell (p := ⟨Br, 2, none⟩) hBl _).setCell (p := ⟨Br, 3, none⟩) hBl _
        have hG4 : Gbx ((((u13.setCell ⟨Br, 0, none⟩ (.int .i64 (rX : Int))).setCell ⟨Br, 1, none⟩ (.int .i64 (rY : Int))).setCell ⟨Br, 2, none⟩ (.int .i64 (rN : Int))).setCell ⟨Br, 3, none⟩ (.int .i64 (rR : Int))) Br ⟨rX, rY, rN, rR⟩ := heap_setCell_same _ Br 3 _ _ _ (heap_setCell_same _ Br 2 _ _ _ (heap_setCell_same _ Br 1 _ _ _ (heap_setCell_same u13 Br 0 _ _ _ hG0)))
        refine go_skip 17 _ rfl (by kernel_rfl) (by kernel_rfl) (by kernel_rfl) ((((u13.setCell ⟨Br, 0, none⟩ (.int .i64 (rX : Int))).setCell ⟨Br, 1, none⟩ (.int .i64 (rY : Int))).setCell ⟨Br, 2, none⟩ (.int .i64 (rN : Int))).setCell ⟨Br, 3, none⟩ (.int .i64 (rR : Int))) (exec_st4 hG0 (.tmp 8) (.tmp 44) (by kernel_rfl) (by kernel_rfl) (by kernel_rfl)) (hL4) ?_
        refine go_take 18 9 _ (.bool fl) rfl (by kernel_rfl) (by kernel_rfl) (by kernel_rfl) (by kernel_rfl) (fun _ _ _ h => h) (Or.inl ⟨by kernel_rfl, fun u hu => by kernel_rfl⟩) hL4 ?_
        simp only [Act.put, List.setIfInBounds_toArray, List.set_cons_zero, List.set_cons_succ]
        refine wpAnyH_done (by kernel_rfl) ?_ _
        refine NoPanic.normal ?_
        have hgB : W0.heap.size < Br := by have := hS2.lt; omega
        have hwB : w.heap.size < Br := Nat.lt_of_lt_of_le (Array.getElem?_eq_some_iff.1 hQ2).1 hBl
        have hQ3 := hQ2.low hL4
        have hS3 := hS2.keep hL4
        have hG3 := hG2.trans (low_grown hL4 (some W0.heap.size))
        clear hcs hxs r1 r2 hHeld hG0 hBr hQ2 hS2 hG2 HE HO HX hS1 hG1' hQ1 hL4
        generalize (((u13.setCell ⟨Br, 0, none⟩ (.int .i64 (rX : Int))).setCell ⟨Br, 1, none⟩ (.int .i64 (rY : Int))).setCell ⟨Br, 2, none⟩ (.int .i64 (rN : Int))).setCell ⟨Br, 3, none⟩ (.int .i64 (rR : Int)) = W4 at hG4 hQ3 hS3 hG3 ⊢
        obtain ⟨c0, c1, c2, c3⟩ := hQ3.cells
        obtain ⟨g0, g1, g2, g3⟩ := hG4.cells
        cases o with
        | none =>
          obtain rfl : false = fl := HRF.out.2
          have e : K1 = KF := HK4.out
          subst e
          go_wp2
          (try simp only [Exit.inBlock, Exit.then])
          refine bodyPost_ret (results_none rfl _ _ _) rfl ?_
          exact ⟨rfl, hS3, hG3⟩
        | some r =>
          obtain rfl : true = fl := HRF.out.2
          obtain rfl : r = ⟨rX, rY, rN, rR⟩ := HRF.out.1
          obtain ⟨q1, q2, q3, q4⟩ := HIn.out _ rfl
          simp only at q1 q2 q3 q4 g0 g1 g2 g3
          clear HRF HIn
          by_cases h64 : 64 < rR
          · have e3 : decide ((64 : Int) < (rR : Int)) = true := decide_eq_true (by omega)
            have e4 : decide ((rR : Int) > 64) = true := e3
            have HK5 : Hid (wrk K1 (lp A C (kp 0 (sub x A b1) (sub y C d1))) = KF) := (by
              show _ = _
              have := HK4.out
              rw [hsel, if_pos h64] at this
              exact this)
            clear HK4 h64
            go_wp2_with fail
            refine (Least_f x y W0 _ _ _ hx hy hxl hyl K1 hS3 A b1 C d1 hAb hbx hCd hdy KF HK5).mono ?_
            rintro e w4 ⟨rfl, hS4, hG5⟩
            have hG6 := hG3.trans hG5
            go_wp2
            (try simp only [Exit.inBlock, Exit.then])
            refine bodyPost_ret (results_none rfl _ _ _) rfl ?_
            exact ⟨rfl, hS4, hG6⟩
          · have e3 : decide ((64 : Int) < (rR : Int)) = false := decide_eq_false (by omega)
            have e4 : decide ((rR : Int) > 64) = false := e3
            obtain ⟨u, hu⟩ : ∃ u, A + rX = u := ⟨_, rfl⟩
            obtain ⟨v, hv⟩ : ∃ v, C + rY = v := ⟨_, rfl⟩
            obtain ⟨u2, hu2⟩ : ∃ u2, u + rN = u2 := ⟨_, rfl⟩
            obtain ⟨v2, hv2⟩ : ∃ v2, v + rN = v2 := ⟨_, rfl⟩
            have HK5 : Hid (wrk (wrk (wrk K1 (fp u v rN)) (pcs (hmid x y) x y f A u C v)) (pcs (hmid x y) x y f u2 b1 v2 d1) = KF) := (by
              show _ = _
              have := HK4.out
              rw [hsel, if_neg h64, wrk_append, wrk_append] at this
              simp only [hu, hv, hu2, hv2] at this
              exact this)
            rw [hu, hu2] at q2
            rw [hv, hv2] at q3
            have hAu : A ≤ u := by omega
            have hCv : C ≤ v := by omega
            have huu : u < u2 := by omega
            have hvv : v < v2 := by omega
            have n1 : (A : Int) + (rX : Int) = (u : Int) := by omega
            have n2 : (C : Int) + (rY : Int) = (v : Int) := by omega
            have n3 : IntKind.i64.wrap (u : Int) = (u : Int) := by rw [IntKind.wrap_i64]; omega
            have n4 : IntKind.i64.wrap (v : Int) = (v : Int) := by rw [IntKind.wrap_i64]; omega
            have m1 : (u : Int) + (rN : Int) = (u2 : Int) := by omega
            have m2 : (v : Int) + (rN : Int) = (v2 : Int) := by omega
            have m3 : IntKind.i64.wrap (u2 : Int) = (u2 : Int) := by rw [IntKind.wrap_i64]; omega
            have m4 : IntKind.i64.wrap (v2 : Int) = (v2 : Int) := by rw [IntKind.wrap_i64]; omega
            clear HK4 h64 hu hv
            go_wp2_with fail
            go_big_quiet (fail)
            have hQ4 := hQ3.low (Below.dN (Below.refl _ W4) nq)
            have hS4 := hS3.drewN nq
            have hG5 := grown_drewN hG3 nq
            have hO4 := hG4.low (Below.dN (Below.refl _ W4) nq)
            clear hQ3 hS3 hG3 hG4 c0 c1 c2 c3 g0 g1 g2 g3 n1 n2 n3 n4 e3 e4
            generalize W4.drewN nq = wf at hQ4 hS4 hG5 hO4 ⊢
            go_wp2
            go_loopw [12] (fun iv wr => ∃ i : Nat, i ≤ rN ∧ iv = .int .i64 i ∧ Ls W0 W0.heap.size x.length (wrk K1 (fp u v i)) wr ∧ w.grownBy wr (some W0.heap.size) ∧ Pbox wr w.heap.size A b1 C d1 ∧ Gbx wr Br ⟨rX, rY, rN, rR⟩) (fun iv _ => rN - (intOf iv).toNat)
            case atStart => exact ⟨0, Nat.zero_le _, rfl, hS4, hG5, hQ4, hO4⟩
            case round =>
              clear hQ4 hS4 hG5 hO4
              obtain ⟨i, hi, rfl, hS, hG, hQ, hO⟩ := hrel
              have hwr := hS.low.size
              obtain ⟨c0, c1, c2, c3⟩ := hQ.cells
              obtain ⟨g0, g1, g2, g3⟩ := hO.cells
              simp only at g0 g1 g2 g3
              by_cases hlt : i < rN
              · have hS1 := hS.set (u + i) ((v + i : Nat) : Int)
                have he : (wrk K1 (fp u v i)).set (u + i) ((v + i : Nat) : Int) = wrk K1 (fp u v (i + 1)) := by rw [fp_snoc2, wrk_append]; rfl
                rw [he] at hS1
                have hl := hS.len
                obtain ⟨s, hs⟩ : ∃ s, u + i = s := ⟨_, rfl⟩
                obtain ⟨t, ht⟩ : ∃ t, v + i = t := ⟨_, rfl⟩
                rw [hs, ht] at hS1
                have d0 := hS.at (List.getElem?_eq_getElem (i := s) (by omega))
                generalize (wrk K1 (fp u v i))[s] = z0 at d0
                have f1 := hS.own.frozenAt s
                have hgs := grown_set wr W0.heap.size s (.int .i64 (t : Int))
                have hG1 := hG.trans hgs
                have hQ1 := hQ.keep hgs (by simp; omega)
                have hO1 := hO.keep hgs (by simp; omega)
                have n1 : (u : Int) + (i : Int) = (s : Int) := by omega
                have n2 : (v : Int) + (i : Int) = (t : Int) := by omega
                have n3 : IntKind.i64.wrap (s : Int) = (s : Int) := by rw [IntKind.wrap_i64]; omega
                have n4 : IntKind.i64.wrap (t : Int) = (t : Int) := by rw [IntKind.wrap_i64]; omega
                have i3 : 0 ≤ (s : Int) := by omega
                have i4 : (s : Int) < (x.length : Int) := by omega
                clear hs ht he hS hG hQ hO hgs
                go_wp2
                go_roundw
                case rel => exact ⟨i + 1, by omega, by go_num, hS1, hG1, hQ1, hO1⟩
                case measure => simp [intOf]; omega
              · obtain rfl : i = rN := by omega
                obtain ⟨K2, hK2⟩ : ∃ K2, wrk (wrk K1 (fp u v i)) (pcs (hmid x y) x y f A u C v) = K2 := ⟨_, rfl⟩
                have HA : Hid (wrk (wrk K1 (fp u v i)) (pcs (hmid x y) x y f A u C v) = K2) := hK2
                have HB : Hid (wrk K2 (pcs (hmid x y) x y f u2 b1 v2 d1) = KF) := (by
                  show _ = _
                  have := HK5.out
                  rw [hK2] at this
                  exact this)
                clear hK2 HK5 hu2 hv2
                go_wp2_with fail
                refine (ih wr _ hS A u C v hAu (by omega) hCv (by omega) (by omega) K2 HA).mono ?_
                rintro e w5 ⟨rfl, hS5, hG5⟩
                have hG6 := hG.trans hG5
                have hQ6 := hQ.keep hG5 (by simp; omega)
                have hO6 := hO.keep hG5 (by simp; omega)
                clear hS hG hQ hO hG5 c0 c1 c2 c3 g0 g1 g2 g3
                obtain ⟨c0, c1, c2, c3⟩ := hQ6.cells
                obtain ⟨g0, g1, g2, g3⟩ := hO6.cells
                simp only at g0 g1 g2 g3
                go_wp2_with fail
                refine (ih w5 K2 hS5 u2 b1 v2 d1 (by omega) hbx (by omega) hdy (by omega) KF HB).mono ?_
                rintro e w6 ⟨rfl, hS7, hG7⟩
                have hG8 := hG6.trans hG7
                go_wp2
                go_end0
                exact ⟨rfl, hS7, hG8⟩
    · have hk2 : A = b1 ∨ C = d1 := by omega
      have e : K1 = KF := by
        have := HKF.out
        rw [if_neg hm0] at this
        exact this
      subst e
      obtain ⟨c0, c1, c2, c3⟩ := hQ2.cells
      by_cases h1 : A = b1
      · have e1 : ((A : Int) == (b1 : Int)) = true := by simp; omega
        clear hm0 hk2 h1
        go_wp2
        (try simp only [Exit.inBlock, Exit.then])
        refine bodyPost_ret (results_none rfl _ _ _) rfl ?_
        exact ⟨rfl, hS2, hG2⟩
      · have e1 : ((A : Int) == (b1 : Int)) = false := by simp; omega
        have e2 : ((C : Int) == (d1 : Int)) = true := by simp; omega
        clear hm0 hk2 h1
        go_wp2
        (try simp only [Exit.inBlock, Exit.then])
        refine bodyPost_ret (results_none rfl _ _ _) rfl ?_
        exact ⟨rfl, hS2, hG2⟩
end Go.Proofs.Ytmhanngimmjmoaa

/- Rows of pairs in memory: two cells a pair. -/
namespace Go.Proofs.Ytmhanngimmjmoaa
open Go.RowKit

def prV (p : Pr) : Value := .agg #[.int .i64 p.X, .int .i64 p.Y]
def prC (p : Pr) : List Value := [.int .i64 p.X, .int .i64 p.Y]
def prcells (l : List Pr) : List Value := l.flatMap prC
theorem infoPr : (Try.prog.info? 27).map (fun i => (i.zero, i.size, i.bytes)) = some (some (.agg #[.int .i64 0, .int .i64 0]), 2, 16) := by kernel_rfl
theorem infoQr : (Try.prog.info? 26).map (fun i => (i.zero, i.size, i.bytes)) = some (some (.agg #[.int .i64 0, .int .i64 0]), 2, 16) := by kernel_rfl
theorem prcells_length (l : List Pr) : (prcells l).length = l.length * 2 := by
  induction l with
  | nil => rfl
  | cons p t ih => simp only [prcells, List.flatMap_cons, List.length_append, List.length_cons, prC, List.length_nil] at ih ⊢; omega
theorem prcells_append (a b : List Pr) : prcells (a ++ b) = prcells a ++ prcells b := by simp [prcells]
theorem prcells_one (l : List Pr) : ∀ u ∈ prcells l, u.oneCell' = true := by
  intro u hu
  simp only [prcells, List.mem_flatMap] at hu
  obtain ⟨p, _, hp⟩ := hu
  simp [prC] at hp
  rcases hp with rfl | rfl <;> rfl
theorem prcells_at (l : List Pr) (k : Nat) (hk : k < l.length) : (prcells l)[2 * k]? = some (.int .i64 l[k].X) ∧ (prcells l)[2 * k + 1]? = some (.int .i64 l[k].Y) := by
  induction l generalizing k with
  | nil => simp at hk
  | cons p t ih =>
    have e : prcells (p :: t) = .int .i64 p.X :: .int .i64 p.Y :: prcells t := rfl
    cases k with
    | zero => rw [e]; exact ⟨rfl, rfl⟩
    | succ k =>
      have := ih k (by simpa using hk)
      rw [e, show 2 * (k + 1) = 2 * k + 1 + 1 by omega]
      simpa using this
theorem prcells_take (l : List Pr) (k : Nat) : prcells (l.take k) = (prcells l).take (2 * k) := by
  induction l generalizing k with
  | nil => simp [prcells]
  | cons p t ih =>
    cases k with
    | zero => simp [prcells]
    | succ k =>
      have e : prcells (p :: t) = .int .i64 p.X :: .int .i64 p.Y :: prcells t := rfl
      have e2 : prcells ((p :: t).take (k + 1)) = .int .i64 p.X :: .int .i64 p.Y :: prcells (t.take k) := rfl
      rw [e, e2, ih, show 2 * (k + 1) = 2 * k + 1 + 1 by omega]
      rfl
theorem prcells_drop (l : List Pr) (k : Nat) : prcells (l.drop k) = (prcells l).drop (2 * k) := by
  induction l generalizing k with
  | nil => simp [prcells]
  | cons p t ih =>
    cases k with
    | zero => simp
    | succ k =>
      have e : prcells (p :: t) = .int .i64 p.X :: .int .i64 p.Y :: prcells t := rfl
      rw [e, List.drop_succ_cons, ih, show 2 * (k + 1) = 2 * k + 1 + 1 by omega]
      rfl
def HPr (w : World) (v : Value) (l : List Pr) : Prop := Holds w v l.length (prcells l)
theorem HPr.keep {w w' : World} {v : Value} {l : List Pr} (h : HPr w v l) {N : Nat} (hk : Below N w w') (hN : w.heap.size ≤ N) : HPr w' v l := Holds.keep h fun k hk' => hk.block k (by omega)
theorem HPr.at {w : World} {ao : Option Addr} {n c : Nat} {l : List Pr} (h : HPr w (.slice ao n c) l) (h0 : 0 < l.length) : ∃ b off, ao = some ⟨b, off, none⟩ ∧ b < w.heap.size ∧
    ∀ k (hk : k < l.length), w.cell? ⟨b, off + k * 2, none⟩ = some (.int .i64 l[k].X) ∧ w.cell? ⟨b, off + k * 2 + 1, none⟩ = some (.int .i64 l[k].Y) := by
  obtain ⟨b, off, c', hv, hb, hc⟩ := Holds.at h (by rw [prcells_length]; omega)
  cases hv
  refine ⟨b, off, rfl, hb, fun k hk => ?_⟩
  obtain ⟨h1, h2⟩ := prcells_at l k hk
  obtain ⟨l1, e1⟩ := List.getElem?_eq_some_iff.1 h1
  obtain ⟨l2, e2⟩ := List.getElem?_eq_some_iff.1 h2
  have g1 := hc _ l1
  have g2 := hc _ l2
  rw [e1] at g1
  rw [e2] at g2
  rw [show k * 2 = 2 * k by omega, Nat.add_assoc]
  exact ⟨g1, g2⟩
end Go.Proofs.Ytmhanngimmjmoaa

/- What an argument of type []redlineref07.Pair holds. -/
namespace Go.Proofs.Ytmhanngimmjmoaa
open Go.ChangeShapes Go.WideShapes Go.ChangeAt Go.RowKit

theorem cellsQr : Try.prog.cellsOf 26 = 2 := by kernel_rfl
/-- a pair of numbers that an int holds -/
def wPr (p : Pr) : Prop := w64 p.X ∧ w64 p.Y

set_option maxRecDepth 10000 in
/-- the pairs that an argument holds -/
theorem open_prs {H : Type} {enc : TypeId × Value → H} {W : World} {fuel : Nat} {ao : Option Addr} {len cap : Nat} {d : DataW H} {p : List MemPlace}
    (h : DataW.trod enc Try.prog W 0 (fun _ => true) true fuel 23 [.slice ao len cap] = some (d, p)) :
    ∃ l : List Pr, HPr W (.slice ao len cap) l ∧ l.length ≤ Rows.uptoBulk d ∧ ∀ c ∈ l, wPr c := by
  rcases Go.Deep.open_slice Try.underlying23 h with ⟨hcs, hx⟩ | ⟨a, l, c, m, n, D, Pl, hcs, _, hl, hm, hmm, hx, hel⟩
  · simp at hcs
    obtain ⟨rfl, rfl, rfl⟩ := hcs
    exact ⟨[], .inl ⟨rfl, rfl, rfl⟩, by simp, by simp⟩
  · simp at hcs
    obtain ⟨rfl, rfl, rfl⟩ := hcs
    simp only [Prod.mk.injEq] at hx
    obtain ⟨rfl, _⟩ := hx
    have hlm : len ≤ m := by rw [hmm]; split <;> omega
    have each : ∀ i, i < len → ∃ c : Pr, wPr c ∧ W.cell? (a.add (i * 2)) = some (.int .i64 c.X) ∧ W.cell? (a.add (i * 2 + 1)) = some (.int .i64 c.Y) ∧ 1 ≤ Rows.uptoBulk (D i) := by
      intro i hi
      obtain ⟨cs', h1, h2⟩ := hel i (by omega)
      rw [cellsQr] at h1
      obtain ⟨_, hlen, hcell⟩ := World.cells?_some h1
      obtain ⟨xs, k, hk, hxy, _, hxl, hf⟩ := DataW.trod_struct Try.underlying26 h2
      match xs, hxl, cs', hlen with
      | [y0, y1], _, [v0, v1], _ =>
        have g0 := hf 0 _ rfl
        have g1 := hf 1 _ rfl
        simp [cellsInt] at g0 g1
        obtain ⟨z0, e0, _, w0⟩ := DataW.trod_int Try.underlying3 g0
        obtain ⟨z1, e1, _, w1⟩ := DataW.trod_int Try.underlying3 g1
        cases e0
        cases e1
        have c0 := hcell 0 (by omega)
        have c1 := hcell 1 (by omega)
        rw [Go.Deep.add_add] at c0 c1
        simp only [Prod.mk.injEq] at hxy
        refine ⟨⟨z0, z1⟩, ⟨w64_of w0, w64_of w1⟩, by simpa using c0, by simpa using c1, ?_⟩
        rw [hxy.1, Rows.uptoBulk]
        omega
    have : Inhabited Pr := ⟨⟨0, 0⟩⟩
    obtain ⟨f, hf⟩ := Go.Deep.choose_lt each
    have hlen : ((List.range len).map f).length = len := by simp
    refine ⟨(List.range len).map f, .inr ⟨a, cap, by rw [hlen], by rw [hlen]; exact hl, fun j u hj => ?_⟩, ?_, ?_⟩
    · have hj' : j < len * 2 := by
        have := (List.getElem?_eq_some_iff.1 hj).1
        rw [prcells_length, hlen] at this
        exact this
      obtain ⟨h0, h1⟩ := prcells_at ((List.range len).map f) (j / 2) (by rw [hlen]; omega)
      obtain ⟨_, g0, g1, _⟩ := hf (j / 2) (by omega)
      simp only [List.getElem_map, List.getElem_range] at h0 h1
      rcases (by omega : j = 2 * (j / 2) ∨ j = 2 * (j / 2) + 1) with e | e
      · rw [e, h0] at hj
        rw [e, Nat.mul_comm, g0, hj]
      · rw [e, h1] at hj
        rw [e, Nat.mul_comm, g1, hj]
    · rw [hlen, Rows.uptoBulk]
      have := bulk_range D len fun i hi => (hf i hi).2.2.2
      omega
    · intro c hc
      simp only [List.mem_map, List.mem_range] at hc
      obtain ⟨i, hi, rfl⟩ := hc
      exact (hf i hi).1
end Go.Proofs.Ytmhanngimmjmoaa

/- The reference's Diff of the layer histogram, walked. -/
namespace Go.Proofs.Ytmhanngimmjmoaa
open Go.RowKit

set_option maxRecDepth 10000 in
set_option maxHeartbeats 2000000 in
theorem rhiDiff_f (x y : List Int) (vx vy : Value) (w : World) (hx : HI w vx x) (hy : HI w vy y) (hxl : x.length ≤ 4096) (hyl : y.length ≤ 4096) (L : List Ch) (hL : Hid (mkL (hKeep x y) y.length = L)) :
    Calls Try.prog 25 #[vx, vy] w fun e w' => ∃ v', e = .returned (.tuple #[v', .int .i64 0]) ∧ HCh w' v' L ∧ Below w.heap.size w w' := by
  obtain ⟨xo, xc, rfl⟩ := Holds.form hx
  obtain ⟨yo, yc, rfl⟩ := Holds.form hy
  obtain ⟨KF, hKF⟩ : ∃ KF, hKeep x y = KF := ⟨_, rfl⟩
  have HK : Hid (Kpt x y KF) := (by rw [← hKF]; exact hKeep_kpt x y)
  have HF : Hid (wrk (List.replicate x.length (-1)) (pcs (hmid x y) x y (x.length + 1) 0 x.length 0 y.length) = KF) := hKF
  rw [hKF] at hL
  clear hKF
  have e1 : decide ((4096 : Int) < (x.length : Int)) = false := decide_eq_false (by omega)
  have e2 : decide ((4096 : Int) < (y.length : Int)) = false := decide_eq_false (by omega)
  go_enter Try.func25, Try.ntmps25
  go_wp2_with fail
  refine (None_f x.length w (by omega)).mono ?_
  rintro e w1 ⟨rfl, hO1, hB1⟩
  have hS1 : Ls w w.heap.size x.length (List.replicate x.length (-1)) w1 := ⟨hB1, hO1⟩
  clear hO1 hB1
  go_wp2_with fail
  refine (rhpiece_f x y w _ _ hx hy hxl hyl (x.length + 1) w1 _ hS1 0 x.length 0 y.length (Nat.zero_le _) (Nat.le_refl _) (Nat.zero_le _) (Nat.le_refl _) (by omega) KF HF).mono ?_
  rintro e w2 ⟨rfl, hS2, hG2⟩
  have hKl := HK.out.len
  have hv2 : HI w2 (.slice (some ⟨w.heap.size, 0, none⟩) x.length x.length) KF := by
    unfold HI
    rw [hKl]
    exact holds_of hS2.own
  have HKL : Hid (KF.length = x.length) := hKl
  clear hKl
  go_wp2_with fail
  refine (rMake_f KF y.length L _ w2 hv2 (by have := HKL.out; omega) HK.out.vk (by omega) (by omega) hL).mono ?_
  rintro e w3 ⟨v3, rfl, hv3, hB3⟩
  have hB := hS2.low.trans (hB3.mono hS2.low.size)
  clear hv2
  go_wp2
  go_ret2
  exact ⟨_, rfl, hv3, hB⟩
end Go.Proofs.Ytmhanngimmjmoaa
