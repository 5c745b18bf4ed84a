/-
  Texts that belong together, joined: PaPi, PaDf.
-/
import Derived.Test.YteplejpbgajecaaPartB3
import Derived.Test.YteplejpbgajecaaPartB2
import Derived.Test.YteplejpbgajecaaPartA5
import Derived.Test.YteplejpbgajecaaPartA6
import Derived.Laws.EntriesVeiled

/- The reference's piece, walked, by induction on how long it may be. -/
namespace Go.Proofs.Yteplejpbgajecaa
open Go.RowKit
attribute [local simp] low_drew

theorem rUnique_low (x y : List Int) (vx vy : Value) (W u : World) (hx : HI u vx x) (hy : HI u vy y) (hxl : x.length ≤ 4096) (hyl : y.length ≤ 4096) (L : List Pr) (hL : Hid (unq x y = L)) (hw : Low W u) :
    Calls Try.prog 21 #[vx, vy] u fun e w' => ∃ ao n c, e = .returned (.slice ao n c) ∧ HPr w' (.slice ao n c) L ∧ Low W w' := by
  refine (rUnique_f x y vx vy u hx hy hxl hyl L hL).mono ?_
  rintro e w' ⟨v', rfl, h1, h2⟩
  obtain ⟨ao, c, rfl⟩ := Holds.form h1
  exact ⟨ao, _, c, rfl, h1, Below.trans hw (h2.mono (Below.size hw))⟩
theorem rLongest_low (l : List Pr) (v : Value) (W u : World) (hl : HPr u v l) (hll : l.length ≤ 4096) (L : List Pr) (hL : Hid (lng l = L)) (n : Nat) (hn : Hid (L.length = n)) (hw : Low W u) :
    Calls Try.prog 22 #[v] u fun e w' => ∃ ao c B, e = .returned (.slice ao n c) ∧ W.heap.size ≤ B ∧ w'.ownsRow B 39 2 (.slice ao n c) n (prcells L) ∧ Low W w' := by
  refine (rLongest_own l v u hl hll L hL).mono ?_
  rintro e w' ⟨v', B, rfl, h1, h2, h3⟩
  obtain ⟨ao, c, rfl⟩ := (holds_of h2).form
  rw [hn.out] at h2
  exact ⟨ao, c, B, by rw [hn.out], Nat.le_trans (Below.size hw) h1, h2, Below.trans hw (h3.mono (Below.size hw))⟩
theorem unq_length (x y : List Int) : (unq x y).length ≤ x.length := uq_length x y 0 x
theorem lng_length (l : List Pr) : (lng l).length ≤ l.length := pick_length _ _ _ _

set_option maxRecDepth 10000 in
set_option maxHeartbeats 8000000 in
theorem rpiece_f (x y : List Int) (W0 : World) (vx vy : Value) (hx : HI W0 vx x) (hy : HI W0 vy y) (hxl : x.length ≤ 4096) (hyl : y.length ≤ 4096) (f : Nat) : ∀ (w : World) (K : List Int) (_ : Ls W0 W0.heap.size x.length K w) (a b c d : Nat) (_ : a ≤ b) (_ : b ≤ x.length) (_ : c ≤ d) (_ : d ≤ y.length) (_ : b - a < f) (KF : List Int) (_ : Hid (wrk K (pcs (pmid x y) x y f a b c d) = KF)),
    Calls Try.prog 50 #[.slice (some ⟨W0.heap.size, 0, none⟩) x.length x.length, vx, vy, .agg #[.int .i64 (a : Int), .int .i64 (b : Int), .int .i64 (c : Int), .int .i64 (d : Int)]] w fun e w' => e = .returned (.tuple #[]) ∧ Ls W0 W0.heap.size x.length KF w' ∧ w.grownBy w' (some W0.heap.size) := by
  obtain ⟨xo, xc, rfl⟩ := Holds.form hx
  obtain ⟨yo, yc, rfl⟩ := Holds.form hy
  induction f with
  | zero => intro w K hS a b c d hab hb hcd hd hf; omega
  | succ f ih =>
    intro w K hS a b c d hab hb hcd hd hf KF hKF
    have hg := hS.lt.2
    obtain ⟨k, hk⟩ : ∃ k, k = tf x y a b c d := ⟨_, rfl⟩
    obtain ⟨m, hm⟩ : ∃ m, m = tb x y (a + k) b (c + k) d := ⟨_, rfl⟩
    have HKF : Hid (wrk (wrk K (fp a c k ++ bp b d m)) (if a + k < b - m ∧ c + k < d - m then pmid x y (pcs (pmid x y) x y f) (a + k) (b - m) (c + k) (d - m) else []) = KF) := (by
      show _ = _
      rw [← hKF.out, pcs, ends, ← hk, ← hm, wrk_append, wrk_append, wrk_append])
    have hkl := tf_le x y a b c d
    have hml := tb_le x y (a + k) b (c + k) d
    rw [← hk] at hkl
    rw [← hm] at hml
    have hQ0 := Pbox.new w a b c d
    have hB0 := (Below.refl w.heap.size w).alloc (Nat.le_refl _) (.cells #[.int .i64 (a : Int), .int .i64 (b : Int), .int .i64 (c : Int), .int .i64 (d : Int)] 58)
    have HB : Hid (k = tf x y a b c d ∧ m = tb x y (a + k) b (c + k) d) := ⟨hk, hm⟩
    clear hKF hk hm
    go_enter Try.func50, Try.ntmps50
    go_wp2_with fail
    refine (Trim_f x y W0 _ _ _ hx hy hxl hyl K (hS.keep hB0) a b c d hab hb hcd hd (by simp; omega)).mono ?_
    rintro e w1 ⟨k', m', hk', hm', rfl, hS1, hG1⟩
    obtain rfl : k' = k := by rw [hk', HB.out.1]
    obtain rfl : m' = m := by rw [hm', HB.out.2]
    have hQ1 := hQ0.keep hG1 (by simp; omega)
    have hG1' : w.grownBy w1 (some W0.heap.size) := (low_grown hB0 _).trans hG1
    clear hk' hm' HB hS hB0 hQ0 hG1
    obtain ⟨A, hA⟩ : ∃ A, a + k' = A := ⟨_, rfl⟩
    obtain ⟨C, hC⟩ : ∃ C, c + k' = C := ⟨_, rfl⟩
    obtain ⟨b1, hb1⟩ : ∃ B, b - m' = B := ⟨_, rfl⟩
    obtain ⟨d1, hd1⟩ : ∃ D, d - m' = D := ⟨_, rfl⟩
    obtain ⟨K1, hK1⟩ : ∃ K1, wrk K (fp a c k' ++ bp b d m') = K1 := ⟨_, rfl⟩
    rw [hK1] at hS1 HKF
    rw [hA, hC, hb1, hd1] at HKF ⊢
    have hAb : A ≤ b1 := by omega
    have hCd : C ≤ d1 := by omega
    have hbx : b1 ≤ x.length := by omega
    have hdy : d1 ≤ y.length := by omega
    have hf1 : b1 - A ≤ f := by omega
    clear hA hC hb1 hd1 hK1 hkl hml hab hb hcd hd hf
    obtain ⟨c0, c1, c2, c3⟩ := hQ1.cells
    have f0 := hQ1.frozen
    have hQ2 : Pbox ((((w1.setCell ⟨w.heap.size, 0, none⟩ (.int .i64 (A : Int))).setCell ⟨w.heap.size, 1, none⟩ (.int .i64 (b1 : Int))).setCell ⟨w.heap.size, 2, none⟩ (.int .i64 (C : Int))).setCell ⟨w.heap.size, 3, none⟩ (.int .i64 (d1 : Int))) w.heap.size A b1 C d1 := by
      have s1 := heap_setCell_same w1 w.heap.size 0 _ _ (.int .i64 (A : Int)) hQ1
      have s2 := heap_setCell_same _ w.heap.size 1 _ _ (.int .i64 (b1 : Int)) s1
      have s3 := heap_setCell_same _ w.heap.size 2 _ _ (.int .i64 (C : Int)) s2
      exact heap_setCell_same _ w.heap.size 3 _ _ (.int .i64 (d1 : Int)) s3
    have hgw := hS1.low.size
    have hS2 := ls_other (ls_other (ls_other (ls_other hS1 (g := w.heap.size) (by omega) (by omega) 0 (.int .i64 (A : Int))) (g := w.heap.size) (by omega) (by omega) 1 (.int .i64 (b1 : Int))) (g := w.heap.size) (by omega) (by omega) 2 (.int .i64 (C : Int))) (g := w.heap.size) (by omega) (by omega) 3 (.int .i64 (d1 : Int))
    have hG2 := grown_new (grown_new (grown_new (grown_new hG1' (B := w.heap.size) (by omega) 0 (.int .i64 (A : Int))) (B := w.heap.size) (by omega) 1 (.int .i64 (b1 : Int))) (B := w.heap.size) (by omega) 2 (.int .i64 (C : Int))) (B := w.heap.size) (by omega) 3 (.int .i64 (d1 : Int))
    obtain ⟨W2, hW2⟩ : ∃ W2, (((w1.setCell ⟨w.heap.size, 0, none⟩ (.int .i64 (A : Int))).setCell ⟨w.heap.size, 1, none⟩ (.int .i64 (b1 : Int))).setCell ⟨w.heap.size, 2, none⟩ (.int .i64 (C : Int))).setCell ⟨w.heap.size, 3, none⟩ (.int .i64 (d1 : Int)) = W2 := ⟨_, rfl⟩
    rw [hW2] at hQ2 hS2 hG2
    unfold pcV
    by_cases hm0 : A < b1 ∧ C < d1
    · have e1 : ((A : Int) == (b1 : Int)) = false := by simp; omega
      have e2 : ((C : Int) == (d1 : Int)) = false := by simp; omega
      have HK2 : Hid (wrk K1 (pmid x y (pcs (pmid x y) x y f) A b1 C d1) = KF) := (by
        show _ = _
        have := HKF.out
        rw [if_pos hm0] at this
        exact this)
      clear HKF
      obtain ⟨c0, c1, c2, c3⟩ := hQ2.cells
      obtain ⟨X, hX⟩ : ∃ X, sub x A b1 = X := ⟨_, rfl⟩
      obtain ⟨Y, hY⟩ : ∃ Y, sub y C d1 = Y := ⟨_, rfl⟩
      obtain ⟨nx, hnx⟩ : ∃ nx, b1 - A = nx := ⟨_, rfl⟩
      obtain ⟨ny, hny⟩ : ∃ ny, d1 - C = ny := ⟨_, rfl⟩
      have r1 := run_slB xo x.length xc A b1 hAb hbx (hold_cap hx)
      have r2 := run_slB yo y.length yc C d1 hCd hdy (hold_cap hy)
      have hXl : X.length = nx := by rw [← hX, sub_length x A b1 hbx, hnx]
      have hYl : Y.length = ny := by rw [← hY, sub_length y C d1 hdy, hny]
      rw [hnx] at r1
      rw [hny] at r2
      have hxs : ∀ u : World, Low W2 u → HI u (.slice (slF xo xc A) nx (xc - A)) X ∧ HI u (.slice (slF yo yc C) ny (yc - C)) Y := fun u hu => by
        have hlow : Below W0.heap.size W0 u := hS2.low.trans (Below.mono hu hS2.low.size)
        have h1 := hold_sub (HI.keep hx hlow (Nat.le_refl _)) hAb hbx
        have h2 := hold_sub (HI.keep hy hlow (Nat.le_refl _)) hCd hdy
        unfold HI
        rw [hXl, hYl]
        rw [hX, hnx] at h1
        rw [hY, hny] at h2
        exact ⟨h1, h2⟩
      obtain ⟨Q, hQ⟩ : ∃ Q, unq X Y = Q := ⟨_, rfl⟩
      obtain ⟨L, hL⟩ : ∃ L, lng Q = L := ⟨_, rfl⟩
      obtain ⟨n, hn⟩ : ∃ n, L.length = n := ⟨_, rfl⟩
      have HQ : Hid (unq X Y = Q) := hQ
      have HL : Hid (lng Q = L) := hL
      have HN : Hid (L.length = n) := hn
      have hQl : Q.length ≤ nx := by rw [← hQ, ← hXl]; exact unq_length X Y
      have hLn : n ≤ nx := by rw [← hn, ← hL]; exact Nat.le_trans (lng_length Q) hQl
      have HX : Hid (X.length ≤ 4096 ∧ Y.length ≤ 4096 ∧ Q.length ≤ 4096) := (by refine ⟨?_, ?_, ?_⟩ <;> omega)
      have HK3 : Hid (wrk K1 (if L = [] then lp A C (kp 0 (sub x A b1) (sub y C d1)) else gos (pcs (pmid x y) x y f) A C b1 d1 A C L) = KF) := (by
        show _ = _
        have := HK2.out
        unfold pmid at this
        rw [hX, hY, hQ, hL] at this
        rw [hX, hY]
        exact this)
      have HGs : Hid (∀ KF, wrk K1 (gos (pcs (pmid x y) x y f) A C b1 d1 A C L) = KF → Gs (pcs (pmid x y) x y f) A C b1 d1 L A C K1 KF) := (by
        intro KF h
        have := Gs.start (rec := pcs (pmid x y) x y f) (x := x) (y := y) (K := K1) (KF := KF) hAb hbx hCd hdy
        rw [hX, hY, hQ, hL] at this
        exact this h)
      have hnl : n ≤ 4096 := by omega
      generalize slF xo xc A = xo' at r1 hxs
      generalize slF yo yc C = yo' at r2 hxs
      generalize xc - A = xc' at r1 hxs
      generalize yc - C = yc' at r2 hxs
      clear hX hY hnx hny hXl hYl hQ hL hn HK2 hQl hLn
      have hcs : ∀ u : World, Low W2 u → u.cell? ⟨w.heap.size, 0, none⟩ = some (.int .i64 (A : Int)) ∧ u.cell? ⟨w.heap.size, 1, none⟩ = some (.int .i64 (b1 : Int)) ∧ u.cell? ⟨w.heap.size, 2, none⟩ = some (.int .i64 (C : Int)) ∧ u.cell? ⟨w.heap.size, 3, none⟩ = some (.int .i64 (d1 : Int)) := fun u hu => (hQ2.low hu).cells
      have hLw : Low W2 W2 := Below.refl _ _
      go_wp2_with fail
      clear hW2 f0
      go_region_held3 (fun u => u.cell? ⟨w.heap.size, 0, none⟩ = some (.int .i64 (A : Int)) ∧ u.cell? ⟨w.heap.size, 1, none⟩ = some (.int .i64 (b1 : Int)) ∧ u.cell? ⟨w.heap.size, 2, none⟩ = some (.int .i64 (C : Int)) ∧ u.cell? ⟨w.heap.size, 3, none⟩ = some (.int .i64 (d1 : Int)) ∧ Low W2 u) (go_keep)
        (first
          | (go_at_call 21; refine (rUnique_low X Y _ _ W2 _ (hxs _ (by first | assumption | (simp [*]; done))).1 (hxs _ (by first | assumption | (simp [*]; done))).2 HX.out.1 HX.out.2.1 Q HQ (by first | assumption | (simp [*]; done))).mono ?_; rintro e wd ⟨qo, qn, qc, rfl, hHQ, hlw⟩; obtain ⟨g0, g1, g2, g3⟩ := hcs wd hlw)
          | (go_at_call 22; refine (rLongest_low Q _ W2 _ (by first | assumption | (simp [*]; done)) HX.out.2.2 L HL n HN (by first | assumption | (simp [*]; done))).mono ?_; rintro e we ⟨lo, lc, B, rfl, hBB, hO, hlw2⟩; obtain ⟨l0, l1, l2, l3⟩ := hcs we hlw2))
      have hgB : W0.heap.size < B := by have := hS2.lt; omega
      have hQ3 := hQ2.low hlw2
      have hS3 := hS2.keep hlw2
      have hG3 := hG2.trans (low_grown hlw2 (some W0.heap.size))
      clear hcs hxs r1 r2 hlw hlw2 hLw hQ2 hS2 hG2 g0 g1 g2 g3 l0 l1 l2 l3 c0 c1 c2 c3 hHQ HQ HL HX hS1 hG1' hQ1
      obtain ⟨c0, c1, c2, c3⟩ := hQ3.cells
      by_cases hn0 : n = 0
      · have e3 : ((n : Int) == 0) = true := by simp; omega
        have HK4 : Hid (wrk K1 (lp A C (kp 0 (sub x A b1) (sub y C d1))) = KF) := (by
          show _ = _
          have := HK3.out
          rw [if_pos (List.eq_nil_of_length_eq_zero (by rw [HN.out]; exact hn0))] at this
          exact this)
        clear hn0 HK3 HGs
        go_wp2_with fail
        refine (Least_f x y W0 we _ _ hx hy hxl hyl K1 hS3 A b1 C d1 hAb hbx hCd hdy KF HK4).mono ?_
        rintro e w4 ⟨rfl, hS4, hG4⟩
        have hG5 := hG3.trans hG4
        go_wp2
        (try simp only [Exit.inBlock, Exit.then])
        refine bodyPost_ret (results_none rfl _ _ _) rfl ?_
        exact ⟨rfl, hS4, hG5⟩
      · have e3 : ((n : Int) == 0) = false := by simp; omega
        have HG0 : Hid (Gs (pcs (pmid x y) x y f) A C b1 d1 (L.drop 0) A C K1 KF) := (by
          refine HGs.out KF ?_
          have := HK3.out
          rw [if_neg (fun h => hn0 (by rw [← HN.out, h]; rfl))] at this
          exact this)
        have hb3 := hS3.low.size
        clear HK3 HGs
        go_wp2_with fail
        go_big_quiet (fail)
        have hQ4 := hQ3.low (Below.dN (Below.refl _ we) nq)
        have hS4 := hS3.drewN nq
        have hG4 := grown_drewN hG3 nq
        have hO4 : (we.drewN nq).ownsRow B 39 2 (.slice lo n lc) n (prcells L) := owns_keep hO (Below.dN (Below.refl _ we) nq)
        clear hQ3 hS3 hG3 hO c0 c1 c2 c3
        generalize we.drewN nq = wf at hQ4 hS4 hG4 hO4 ⊢
        go_wp2
        go_loopw [9, 10, 11] (fun av cv iv wr => ∃ (i a' c' : Nat) (K' : List Int), i ≤ n ∧ av = .int .i64 a' ∧ cv = .int .i64 c' ∧ iv = .int .i64 i ∧ Ls W0 W0.heap.size x.length K' wr ∧ w.grownBy wr (some W0.heap.size) ∧ Pbox wr w.heap.size A b1 C d1 ∧ wr.ownsRow B 39 2 (.slice lo n lc) n (prcells L) ∧ (i = 0 ∨ A < a') ∧ Hid (Gs (pcs (pmid x y) x y f) A C b1 d1 (L.drop i) a' c' K' KF)) (fun _ _ iv _ => n - (intOf iv).toNat)
        case atStart => exact ⟨0, A, C, K1, Nat.zero_le _, rfl, rfl, rfl, hS4, hG4, hQ4, hO4, .inl rfl, HG0⟩
        case round =>
          clear hQ4 hS4 hG4 hO4 HG0
          obtain ⟨i, a', c', K', hi, rfl, rfl, rfl, hS, hG, hQ, hO, hia, HG⟩ := hrel
          have hwr := hS.low.size
          have hgr := hG.size
          obtain ⟨c0, c1, c2, c3⟩ := hQ.cells
          by_cases hlt : i < n
          · have hiL : i < L.length := by rw [HN.out]; exact hlt
            obtain ⟨p, hp⟩ : ∃ p, L[i] = p := ⟨_, rfl⟩
            have HG2 : Hid (Gs (pcs (pmid x y) x y f) A C b1 d1 (p :: L.drop (i + 1)) a' c' K' KF) := (by
              have := HG.out
              rw [List.drop_eq_getElem_cons hiL, hp] at this
              exact this)
            obtain ⟨pu, pv, hpu, hpv, q1, q2, q3, q4⟩ := HG2.out.head
            have HG3 : Hid (Gs (pcs (pmid x y) x y f) A C b1 d1 (L.drop (i + 1)) (A + pu + 1) (C + pv + 1) (wrk (wrk K' (pcs (pmid x y) x y f a' (A + pu) c' (C + pv))) (fp (A + pu) (C + pv) 1)) KF) := HG2.out.step hpu hpv
            have hAa := HG2.out.Aa
            have hCc := HG2.out.Cc
            obtain ⟨lb, lf, lcc, hle, _, hcl⟩ := Holds.at (holds_of hO) (by rw [prcells_length]; omega)
            cases hle
            have l0 : wr.cell? ⟨lb, lf + i * 2, none⟩ = some (.int .i64 (pu : Int)) := by
              obtain ⟨t1, t2⟩ := List.getElem?_eq_some_iff.1 (prcells_at L i hiL).1
              have := hcl _ t1
              rw [t2, hp, hpu, show 2 * i = i * 2 by omega] at this
              exact this
            have l1 : wr.cell? ⟨lb, lf + i * 2 + 1, none⟩ = some (.int .i64 (pv : Int)) := by
              obtain ⟨t1, t2⟩ := List.getElem?_eq_some_iff.1 (prcells_at L i hiL).2
              have := hcl _ t1
              rw [t2, hp, hpv, show 2 * i + 1 = i * 2 + 1 by omega] at this
              exact this
            clear hcl HG HG2 hpu hpv hp
            obtain ⟨u, hu⟩ : ∃ u, A + pu = u := ⟨_, rfl⟩
            obtain ⟨v, hv⟩ : ∃ v, C + pv = v := ⟨_, rfl⟩
            rw [hu, hv] at HG3
            rw [hu] at q1 q2
            rw [hv] at q3 q4
            have n1 : (A : Int) + (pu : Int) = (u : Int) := by omega
            have n2 : (C : Int) + (pv : Int) = (v : Int) := by omega
            have n3 : IntKind.i64.wrap (u : Int) = (u : Int) := by rw [IntKind.wrap_i64]; omega
            have n4 : IntKind.i64.wrap (v : Int) = (v : Int) := by rw [IntKind.wrap_i64]; omega
            have i1 : 0 ≤ (i : Int) := by omega
            have i2 : (i : Int) < (n : Int) := by omega
            have i3 : 0 ≤ (u : Int) := by omega
            have i4 : (u : Int) < (x.length : Int) := by omega
            clear hu hv
            go_wp2_with fail
            go_big_quiet (fail)
            have hQq := hQ.low (Below.dN (Below.refl _ wr) nq)
            have hSq := hS.drewN nq
            have hGq := grown_drewN hG nq
            have hOq : (wr.drewN nq).ownsRow B 39 2 (.slice (some ⟨lb, lf, none⟩) n lc) n (prcells L) := owns_keep hO (Below.dN (Below.refl _ wr) nq)
            clear hQ hS hG hO c0 c1 c2 c3 l0 l1
            generalize wr.drewN nq = wg at hQq hSq hGq hOq ⊢
            have hl := hSq.len
            have d0 := hSq.at (List.getElem?_eq_getElem (i := u) (by omega))
            have f1 := hSq.own.frozenAt u
            have hS1 := hSq.set u (v : Int)
            have hgs := grown_set wg W0.heap.size u (.int .i64 (v : Int))
            have hG1 := hGq.trans hgs
            have hQ1 := hQq.keep hgs (by simp; omega)
            have hO1 := holds_grown hOq hgs (by omega)
            have HEq : Hid (wrk (K'.set u (v : Int)) (pcs (pmid x y) x y f a' u c' v) = wrk (wrk K' (pcs (pmid x y) x y f a' u c' v)) (fp u v 1)) := (by
              show _ = _
              rw [wrk_comm K' _ u v (fun q hq => by
                have := (pcs_ok (pmid_ok x y) f a' u c' v q1 (by omega) q3 (by omega)).wn q hq
                unfold Wn at this
                omega)]
              rfl)
            generalize K'[u] = z0 at d0
            obtain ⟨KK, hKK⟩ : ∃ KK, wrk (K'.set u (v : Int)) (pcs (pmid x y) x y f a' u c' v) = KK := ⟨_, rfl⟩
            have HKK : Hid (wrk (K'.set u (v : Int)) (pcs (pmid x y) x y f a' u c' v) = KK) := hKK
            have HG4 : Hid (Gs (pcs (pmid x y) x y f) A C b1 d1 (L.drop (i + 1)) (u + 1) (v + 1) KK KF) := (by
              have := HG3.out
              rw [← HEq.out, hKK] at this
              exact this)
            clear HG3 HEq hKK hSq hGq hQq hOq hgs
            go_wp2_with fail
            refine (ih _ _ hS1 a' u c' v q1 (by omega) q3 (by omega) (by omega) KK HKK).mono ?_
            rintro e w5 ⟨rfl, hS5, hG5⟩
            have hG6 := hG1.trans hG5
            have hQ6 := hQ1.keep hG5 (by simp; omega)
            have hO6 := holds_grown hO1 hG5 (by omega)
            clear hS1 hG1 hQ1 hO1 hG5 d0 f1
            go_wp2
            go_roundw
            case rel => exact ⟨i + 1, u + 1, v + 1, KK, by omega, by go_num, by go_num, by go_num, hS5, hG6, hQ6, hO6, .inr (by omega), HG4⟩
            case measure => simp [intOf]; omega
          · obtain rfl : i = n := by omega
            have hAa := HG.out.Aa
            have hbb := HG.out.ab'
            have hCc := HG.out.Cc
            have hdd := HG.out.cd
            have HE : Hid (wrk K' (pcs (pmid x y) x y f a' b1 c' d1) = KF) := (by
              have := HG.out
              rw [List.drop_of_length_le (by rw [HN.out]; exact Nat.le_refl _)] at this
              exact this.end')
            go_wp2_with fail
            refine (ih wr K' hS a' b1 c' d1 hbb hbx hdd hdy (by omega) KF HE).mono ?_
            rintro e w5 ⟨rfl, hS5, hG5⟩
            have hG6 := hG.trans hG5
            go_wp2
            go_end0
            exact ⟨rfl, hS5, hG6⟩
    · have hk2 : A = b1 ∨ C = d1 := by omega
      have e : K1 = KF := by
        have := HKF.out
        rw [if_neg hm0] at this
        exact this
      subst e
      obtain ⟨c0, c1, c2, c3⟩ := hQ2.cells
      by_cases h1 : A = b1
      · have e1 : ((A : Int) == (b1 : Int)) = true := by simp; omega
        clear hm0 hk2 h1
        go_wp2
        (try simp only [Exit.inBlock, Exit.then])
        refine bodyPost_ret (results_none rfl _ _ _) rfl ?_
        exact ⟨rfl, hS2, hG2⟩
      · have e1 : ((A : Int) == (b1 : Int)) = false := by simp; omega
        have e2 : ((C : Int) == (d1 : Int)) = true := by simp; omega
        clear hm0 hk2 h1
        go_wp2
        (try simp only [Exit.inBlock, Exit.then])
        refine bodyPost_ret (results_none rfl _ _ _) rfl ?_
        exact ⟨rfl, hS2, hG2⟩
end Go.Proofs.Yteplejpbgajecaa

/- patience.Diff and the reference's Diff, walked. -/
namespace Go.Proofs.Yteplejpbgajecaa
open Go.RowKit

/-- what patience keeps -/
def pKeep (x y : List Int) : List Int := wrk (List.replicate x.length (-1)) (pcs (pmid x y) x y (x.length + 1) 0 x.length 0 y.length)
theorem pKeep_ok (x y : List Int) : Okp x y 0 x.length 0 y.length (pcs (pmid x y) x y (x.length + 1) 0 x.length 0 y.length) := pcs_ok (pmid_ok x y) _ 0 x.length 0 y.length (Nat.zero_le _) (Nat.le_refl _) (Nat.zero_le _) (Nat.le_refl _)
theorem pKeep_kpt (x y : List Int) : Kpt x y (pKeep x y) := (pKeep_ok x y).kpt

set_option maxRecDepth 10000 in
set_option maxHeartbeats 2000000 in
theorem paDiff_f (x y : List Int) (vx vy : Value) (w : World) (hx : HI w vx x) (hy : HI w vy y) (hxl : x.length ≤ 4096) (hyl : y.length ≤ 4096) (hwx : ∀ c ∈ x, w64 c) (hwy : ∀ c ∈ y, w64 c) (L : List Ch) (hL : Hid (mkL (pKeep x y) y.length = L)) :
    Calls Try.prog 23 #[vx, vy] w fun e w' => ∃ v', e = .returned (.tuple #[v', .int .i64 0]) ∧ HCh w' v' L ∧ Below w.heap.size w w' := by
  obtain ⟨xo, xc, rfl⟩ := Holds.form hx
  obtain ⟨yo, yc, rfl⟩ := Holds.form hy
  obtain ⟨KF, hKF⟩ : ∃ KF, pKeep x y = KF := ⟨_, rfl⟩
  have HK : Hid (Kpt x y KF) := (by rw [← hKF]; exact pKeep_kpt x y)
  have HF : Hid (wrk (List.replicate x.length (-1)) (pcs (pmid x y) x y (x.length + 1) 0 x.length 0 y.length) = KF) := hKF
  rw [hKF] at hL
  have HWX : Hid (∀ c ∈ x, w64 c) := hwx
  have HWY : Hid (∀ c ∈ y, w64 c) := hwy
  clear hKF hwx hwy
  go_enter Try.func23, Try.ntmps23
  go_wp2_with fail
  have hW1 : Below w.heap.size w (w.alloc (.cells #[.func (.func 45) #[] #[.pointer (some ⟨w.heap.size, 0, none⟩)]] 55)) := (Below.refl _ w).alloc (Nat.le_refl _) _
  have hf0 : (w.alloc (.cells #[.func (.func 45) #[] #[.pointer (some ⟨w.heap.size, 0, none⟩)]] 55)).cell? ⟨w.heap.size, 0, none⟩ = some (.func (.func 45) #[] #[.pointer (some ⟨w.heap.size, 0, none⟩)]) := by
    rw [Lib.cell_of_heap (_root_.Go.heap_alloc_new w _)]
    rfl
  refine (pDiff_f x y _ _ _ (HI.keep hx hW1 (Nat.le_refl _)) (HI.keep hy hW1 (Nat.le_refl _)) hxl hyl 45 #[.pointer (some ⟨w.heap.size, 0, none⟩)] (enters_of Try.func45 (by kernel_rfl) rfl) KF HK (fun u g xo xc yo yc hS hp => find_f x y _ g w.heap.size hf0 hxl hyl HWX.out HWY.out (x.length + 1) u _ hS 0 x.length 0 y.length _ _ _ _ _ _ _ _ hp (by omega) KF HF) L hL).mono ?_
  rintro e w2 ⟨v2, rfl, hv2, hB2⟩
  have hB := hW1.trans (hB2.mono (by simp))
  clear hf0
  go_wp2
  go_ret2
  exact ⟨_, rfl, hv2, hB⟩
set_option maxHeartbeats 2000000 in
theorem paDiff_long (x y : List Int) (vx vy : Value) (w : World) (hx : HI w vx x) (hy : HI w vy y) (hl : 4096 < x.length ∨ 4096 < y.length) :
    Calls Try.prog 23 #[vx, vy] w fun e w' => e = .returned (.tuple #[.slice none 0 0, .int .i64 9]) ∧ Below w.heap.size w w' := by
  obtain ⟨xo, xc, rfl⟩ := Holds.form hx
  obtain ⟨yo, yc, rfl⟩ := Holds.form hy
  have HL : Hid (4096 < x.length ∨ 4096 < y.length) := hl
  clear hl
  go_enter Try.func23, Try.ntmps23
  go_wp2_with fail
  have hW1 : Below w.heap.size w (w.alloc (.cells #[.func (.func 45) #[] #[.pointer (some ⟨w.heap.size, 0, none⟩)]] 55)) := (Below.refl _ w).alloc (Nat.le_refl _) _
  refine (pDiff_long x y _ _ _ _ (HI.keep hx hW1 (Nat.le_refl _)) (HI.keep hy hW1 (Nat.le_refl _)) HL.out).mono ?_
  rintro e w2 ⟨rfl, rfl⟩
  go_wp2
  go_ret2
  exact ⟨rfl, hW1⟩

set_option maxRecDepth 10000 in
set_option maxHeartbeats 2000000 in
theorem rpaDiff_f (x y : List Int) (vx vy : Value) (w : World) (hx : HI w vx x) (hy : HI w vy y) (hxl : x.length ≤ 4096) (hyl : y.length ≤ 4096) (L : List Ch) (hL : Hid (mkL (pKeep x y) y.length = L)) :
    Calls Try.prog 24 #[vx, vy] w fun e w' => ∃ v', e = .returned (.tuple #[v', .int .i64 0]) ∧ HCh w' v' L ∧ Below w.heap.size w w' := by
  obtain ⟨xo, xc, rfl⟩ := Holds.form hx
  obtain ⟨yo, yc, rfl⟩ := Holds.form hy
  obtain ⟨KF, hKF⟩ : ∃ KF, pKeep x y = KF := ⟨_, rfl⟩
  have HK : Hid (Kpt x y KF) := (by rw [← hKF]; exact pKeep_kpt x y)
  have HF : Hid (wrk (List.replicate x.length (-1)) (pcs (pmid x y) x y (x.length + 1) 0 x.length 0 y.length) = KF) := hKF
  rw [hKF] at hL
  clear hKF
  have e1 : decide ((4096 : Int) < (x.length : Int)) = false := decide_eq_false (by omega)
  have e2 : decide ((4096 : Int) < (y.length : Int)) = false := decide_eq_false (by omega)
  go_enter Try.func24, Try.ntmps24
  go_wp2_with fail
  refine (None_f x.length w (by omega)).mono ?_
  rintro e w1 ⟨rfl, hO1, hB1⟩
  have hS1 : Ls w w.heap.size x.length (List.replicate x.length (-1)) w1 := ⟨hB1, hO1⟩
  clear hO1 hB1
  go_wp2_with fail
  refine (rpiece_f x y w _ _ hx hy hxl hyl (x.length + 1) w1 _ hS1 0 x.length 0 y.length (Nat.zero_le _) (Nat.le_refl _) (Nat.zero_le _) (Nat.le_refl _) (by omega) KF HF).mono ?_
  rintro e w2 ⟨rfl, hS2, hG2⟩
  have hKl := HK.out.len
  have hv2 : HI w2 (.slice (some ⟨w.heap.size, 0, none⟩) x.length x.length) KF := by
    unfold HI
    rw [hKl]
    exact holds_of hS2.own
  have HKL : Hid (KF.length = x.length) := hKl
  clear hKl
  go_wp2_with fail
  refine (rMake_f KF y.length L _ w2 hv2 (by have := HKL.out; omega) HK.out.vk (by omega) (by omega) hL).mono ?_
  rintro e w3 ⟨v3, rfl, hv3, hB3⟩
  have hB := hS2.low.trans (hB3.mono hS2.low.size)
  clear hv2
  go_wp2
  go_ret2
  exact ⟨_, rfl, hv3, hB⟩
end Go.Proofs.Yteplejpbgajecaa
