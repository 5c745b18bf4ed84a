/-
  Texts that belong together, joined: PaPi, PaOp, PaDf, PaHm, PaWk, PaWo, PaOn, EdRChk, EdRKp.
-/
import Derived.Test.YtheagpbmpnpalaaPartA9
import Derived.Test.YtheagpbmpnpalaaPartA5
import Derived.Test.YtheagpbmpnpalaaPartA7
import Derived.Test.YtheagpbmpnpalaaPartA8
import Derived.Laws.EntriesVeiled
import Derived.Test.YtheagpbmpnpalaaPartA2
import Derived.Test.YtheagpbmpnpalaaPartA4

/- The reference's piece, walked, by induction on how long it may be. -/
namespace Go.Proofs.Ytheagpbmpnpalaa
open Go.RowKit
attribute [local simp] low_drew

theorem rUnique_low (x y : List Int) (vx vy : Value) (W u : World) (hx : HI u vx x) (hy : HI u vy y) (hxl : x.length ≤ 4096) (hyl : y.length ≤ 4096) (L : List Pr) (hL : Hid (unq x y = L)) (hw : Low W u) :
    Calls Try.prog 10 #[vx, vy] u fun e w' => ∃ ao n c, e = .returned (.slice ao n c) ∧ HPr w' (.slice ao n c) L ∧ Low W w' := by
  refine (rUnique_f x y vx vy u hx hy hxl hyl L hL).mono ?_
  rintro e w' ⟨v', rfl, h1, h2⟩
  obtain ⟨ao, c, rfl⟩ := Holds.form h1
  exact ⟨ao, _, c, rfl, h1, Below.trans hw (h2.mono (Below.size hw))⟩
theorem rLongest_low (l : List Pr) (v : Value) (W u : World) (hl : HPr u v l) (hll : l.length ≤ 4096) (L : List Pr) (hL : Hid (lng l = L)) (n : Nat) (hn : Hid (L.length = n)) (hw : Low W u) :
    Calls Try.prog 11 #[v] u fun e w' => ∃ ao c B, e = .returned (.slice ao n c) ∧ W.heap.size ≤ B ∧ w'.ownsRow B 26 2 (.slice ao n c) n (prcells L) ∧ Low W w' := by
  refine (rLongest_own l v u hl hll L hL).mono ?_
  rintro e w' ⟨v', B, rfl, h1, h2, h3⟩
  obtain ⟨ao, c, rfl⟩ := (holds_of h2).form
  rw [hn.out] at h2
  exact ⟨ao, c, B, by rw [hn.out], Nat.le_trans (Below.size hw) h1, h2, Below.trans hw (h3.mono (Below.size hw))⟩
theorem unq_length (x y : List Int) : (unq x y).length ≤ x.length := uq_length x y 0 x
theorem lng_length (l : List Pr) : (lng l).length ≤ l.length := pick_length _ _ _ _

set_option maxRecDepth 10000 in
set_option maxHeartbeats 8000000 in
theorem rpiece_f (x y : List Int) (W0 : World) (vx vy : Value) (hx : HI W0 vx x) (hy : HI W0 vy y) (hxl : x.length ≤ 4096) (hyl : y.length ≤ 4096) (f : Nat) : ∀ (w : World) (K : List Int) (_ : Ls W0 W0.heap.size x.length K w) (a b c d : Nat) (_ : a ≤ b) (_ : b ≤ x.length) (_ : c ≤ d) (_ : d ≤ y.length) (_ : b - a < f) (KF : List Int) (_ : Hid (wrk K (pcs (pmid x y) x y f a b c d) = KF)),
    Calls Try.prog 34 #[.slice (some ⟨W0.heap.size, 0, none⟩) x.length x.length, vx, vy, .agg #[.int .i64 (a : Int), .int .i64 (b : Int), .int .i64 (c : Int), .int .i64 (d : Int)]] w fun e w' => e = .returned (.tuple #[]) ∧ Ls W0 W0.heap.size x.length KF w' ∧ w.grownBy w' (some W0.heap.size) := by
  obtain ⟨xo, xc, rfl⟩ := Holds.form hx
  obtain ⟨yo, yc, rfl⟩ := Holds.form hy
  induction f with
  | zero => intro w K hS a b c d hab hb hcd hd hf; omega
  | succ f ih =>
    intro w K hS a b c d hab hb hcd hd hf KF hKF
    have hg := hS.lt.2
    obtain ⟨k, hk⟩ : ∃ k, k = tf x y a b c d := ⟨_, rfl⟩
    obtain ⟨m, hm⟩ : ∃ m, m = tb x y (a + k) b (c + k) d := ⟨_, rfl⟩
    have HKF : Hid (wrk (wrk K (fp a c k ++ bp b d m)) (if a + k < b - m ∧ c + k < d - m then pmid x y (pcs (pmid x y) x y f) (a + k) (b - m) (c + k) (d - m) else []) = KF) := (by
      show _ = _
      rw [← hKF.out, pcs, ends, ← hk, ← hm, wrk_append, wrk_append, wrk_append])
    have hkl := tf_le x y a b c d
    have hml := tb_le x y (a + k) b (c + k) d
    rw [← hk] at hkl
    rw [← hm] at hml
    have hQ0 := Pbox.new w a b c d
    have hB0 := (Below.refl w.heap.size w).alloc (Nat.le_refl _) (.cells #[.int .i64 (a : Int), .int .i64 (b : Int), .int .i64 (c : Int), .int .i64 (d : Int)] 65)
    have HB : Hid (k = tf x y a b c d ∧ m = tb x y (a + k) b (c + k) d) := ⟨hk, hm⟩
    clear hKF hk hm
    go_enter Try.func34, Try.ntmps34
    go_wp2_with fail
    refine (Trim_f x y W0 _ _ _ hx hy hxl hyl K (hS.keep hB0) a b c d hab hb hcd hd (by simp; omega)).mono ?_
    rintro e w1 ⟨k', m', hk', hm', rfl, hS1, hG1⟩
    obtain rfl : k' = k := by rw [hk', HB.out.1]
    obtain rfl : m' = m := by rw [hm', HB.out.2]
    have hQ1 := hQ0.keep hG1 (by simp; omega)
    have hG1' : w.grownBy w1 (some W0.heap.size) := (low_grown hB0 _).trans hG1
    clear hk' hm' HB hS hB0 hQ0 hG1
    obtain ⟨A, hA⟩ : ∃ A, a + k' = A := ⟨_, rfl⟩
    obtain ⟨C, hC⟩ : ∃ C, c + k' = C := ⟨_, rfl⟩
    obtain ⟨b1, hb1⟩ : ∃ B, b - m' = B := ⟨_, rfl⟩
    obtain ⟨d1, hd1⟩ : ∃ D, d - m' = D := ⟨_, rfl⟩
    obtain ⟨K1, hK1⟩ : ∃ K1, wrk K (fp a c k' ++ bp b d m') = K1 := ⟨_, rfl⟩
    rw [hK1] at hS1 HKF
    rw [hA, hC, hb1, hd1] at HKF ⊢
    have hAb : A ≤ b1 := by omega
    have hCd : C ≤ d1 := by omega
    have hbx : b1 ≤ x.length := by omega
    have hdy : d1 ≤ y.length := by omega
    have hf1 : b1 - A ≤ f := by omega
    clear hA hC hb1 hd1 hK1 hkl hml hab hb hcd hd hf
    obtain ⟨c0, c1, c2, c3⟩ := hQ1.cells
    have f0 := hQ1.frozen
    have hQ2 : Pbox ((((w1.setCell ⟨w.heap.size, 0, none⟩ (.int .i64 (A : Int))).setCell ⟨w.heap.size, 1, none⟩ (.int .i64 (b1 : Int))).setCell ⟨w.heap.size, 2, none⟩ (.int .i64 (C : Int))).setCell ⟨w.heap.size, 3, none⟩ (.int .i64 (d1 : Int))) w.heap.size A b1 C d1 := by
      have s1 := heap_setCell_same w1 w.heap.size 0 _ _ (.int .i64 (A : Int)) hQ1
      have s2 := heap_setCell_same _ w.heap.size 1 _ _ (.int .i64 (b1 : Int)) s1
      have s3 := heap_setCell_same _ w.heap.size 2 _ _ (.int .i64 (C : Int)) s2
      exact heap_setCell_same _ w.heap.size 3 _ _ (.int .i64 (d1 : Int)) s3
    have hgw := hS1.low.size
    have hS2 := ls_other (ls_other (ls_other (ls_other hS1 (g := w.heap.size) (by omega) (by omega) 0 (.int .i64 (A : Int))) (g := w.heap.size) (by omega) (by omega) 1 (.int .i64 (b1 : Int))) (g := w.heap.size) (by omega) (by omega) 2 (.int .i64 (C : Int))) (g := w.heap.size) (by omega) (by omega) 3 (.int .i64 (d1 : Int))
    have hG2 := grown_new (grown_new (grown_new (grown_new hG1' (B := w.heap.size) (by omega) 0 (.int .i64 (A : Int))) (B := w.heap.size) (by omega) 1 (.int .i64 (b1 : Int))) (B := w.heap.size) (by omega) 2 (.int .i64 (C : Int))) (B := w.heap.size) (by omega) 3 (.int .i64 (d1 : Int))
    obtain ⟨W2, hW2⟩ : ∃ W2, (((w1.setCell ⟨w.heap.size, 0, none⟩ (.int .i64 (A : Int))).setCell ⟨w.heap.size, 1, none⟩ (.int .i64 (b1 : Int))).setCell ⟨w.heap.size, 2, none⟩ (.int .i64 (C : Int))).setCell ⟨w.heap.size, 3, none⟩ (.int .i64 (d1 : Int)) = W2 := ⟨_, rfl⟩
    rw [hW2] at hQ2 hS2 hG2
    unfold pcV
    by_cases hm0 : A < b1 ∧ C < d1
    · have e1 : ((A : Int) == (b1 : Int)) = false := by simp; omega
      have e2 : ((C : Int) == (d1 : Int)) = false := by simp; omega
      have HK2 : Hid (wrk K1 (pmid x y (pcs (pmid x y) x y f) A b1 C d1) = KF) := (by
        show _ = _
        have := HKF.out
        rw [if_pos hm0] at this
        exact this)
      clear HKF
      obtain ⟨c0, c1, c2, c3⟩ := hQ2.cells
      obtain ⟨X, hX⟩ : ∃ X, sub x A b1 = X := ⟨_, rfl⟩
      obtain ⟨Y, hY⟩ : ∃ Y, sub y C d1 = Y := ⟨_, rfl⟩
      obtain ⟨nx, hnx⟩ : ∃ nx, b1 - A = nx := ⟨_, rfl⟩
      obtain ⟨ny, hny⟩ : ∃ ny, d1 - C = ny := ⟨_, rfl⟩
      have r1 := run_slB xo x.length xc A b1 hAb hbx (hold_cap hx)
      have r2 := run_slB yo y.length yc C d1 hCd hdy (hold_cap hy)
      have hXl : X.length = nx := by rw [← hX, sub_length x A b1 hbx, hnx]
      have hYl : Y.length = ny := by rw [← hY, sub_length y C d1 hdy, hny]
      rw [hnx] at r1
      rw [hny] at r2
      have hxs : ∀ u : World, Low W2 u → HI u (.slice (slF xo xc A) nx (xc - A)) X ∧ HI u (.slice (slF yo yc C) ny (yc - C)) Y := fun u hu => by
        have hlow : Below W0.heap.size W0 u := hS2.low.trans (Below.mono hu hS2.low.size)
        have h1 := hold_sub (HI.keep hx hlow (Nat.le_refl _)) hAb hbx
        have h2 := hold_sub (HI.keep hy hlow (Nat.le_refl _)) hCd hdy
        unfold HI
        rw [hXl, hYl]
        rw [hX, hnx] at h1
        rw [hY, hny] at h2
        exact ⟨h1, h2⟩
      obtain ⟨Q, hQ⟩ : ∃ Q, unq X Y = Q := ⟨_, rfl⟩
      obtain ⟨L, hL⟩ : ∃ L, lng Q = L := ⟨_, rfl⟩
      obtain ⟨n, hn⟩ : ∃ n, L.length = n := ⟨_, rfl⟩
      have HQ : Hid (unq X Y = Q) := hQ
      have HL : Hid (lng Q = L) := hL
      have HN : Hid (L.length = n) := hn
      have hQl : Q.length ≤ nx := by rw [← hQ, ← hXl]; exact unq_length X Y
      have hLn : n ≤ nx := by rw [← hn, ← hL]; exact Nat.le_trans (lng_length Q) hQl
      have HX : Hid (X.length ≤ 4096 ∧ Y.length ≤ 4096 ∧ Q.length ≤ 4096) := (by refine ⟨?_, ?_, ?_⟩ <;> omega)
      have HK3 : Hid (wrk K1 (if L = [] then lp A C (kp 0 (sub x A b1) (sub y C d1)) else gos (pcs (pmid x y) x y f) A C b1 d1 A C L) = KF) := (by
        show _ = _
        have := HK2.out
        unfold pmid at this
        rw [hX, hY, hQ, hL] at this
        rw [hX, hY]
        exact this)
      have HGs : Hid (∀ KF, wrk K1 (gos (pcs (pmid x y) x y f) A C b1 d1 A C L) = KF → Gs (pcs (pmid x y) x y f) A C b1 d1 L A C K1 KF) := (by
        intro KF h
        have := Gs.start (rec := pcs (pmid x y) x y f) (x := x) (y := y) (K := K1) (KF := KF) hAb hbx hCd hdy
        rw [hX, hY, hQ, hL] at this
        exact this h)
      have hnl : n ≤ 4096 := by omega
      generalize slF xo xc A = xo' at r1 hxs
      generalize slF yo yc C = yo' at r2 hxs
      generalize xc - A = xc' at r1 hxs
      generalize yc - C = yc' at r2 hxs
      clear hX hY hnx hny hXl hYl hQ hL hn HK2 hQl hLn
      have hcs : ∀ u : World, Low W2 u → u.cell? ⟨w.heap.size, 0, none⟩ = some (.int .i64 (A : Int)) ∧ u.cell? ⟨w.heap.size, 1, none⟩ = some (.int .i64 (b1 : Int)) ∧ u.cell? ⟨w.heap.size, 2, none⟩ = some (.int .i64 (C : Int)) ∧ u.cell? ⟨w.heap.size, 3, none⟩ = some (.int .i64 (d1 : Int)) := fun u hu => (hQ2.low hu).cells
      have hLw : Low W2 W2 := Below.refl _ _
      go_wp2_with fail
      clear hW2 f0
      go_region_held3 (fun u => u.cell? ⟨w.heap.size, 0, none⟩ = some (.int .i64 (A : Int)) ∧ u.cell? ⟨w.heap.size, 1, none⟩ = some (.int .i64 (b1 : Int)) ∧ u.cell? ⟨w.heap.size, 2, none⟩ = some (.int .i64 (C : Int)) ∧ u.cell? ⟨w.heap.size, 3, none⟩ = some (.int .i64 (d1 : Int)) ∧ Low W2 u) (go_keep)
        (first
          | (go_at_call 10; refine (rUnique_low X Y _ _ W2 _ (hxs _ (by first | assumption | (simp [*]; done))).1 (hxs _ (by first | assumption | (simp [*]; done))).2 HX.out.1 HX.out.2.1 Q HQ (by first | assumption | (simp [*]; done))).mono ?_; rintro e wd ⟨qo, qn, qc, rfl, hHQ, hlw⟩; obtain ⟨g0, g1, g2, g3⟩ := hcs wd hlw)
          | (go_at_call 11; refine (rLongest_low Q _ W2 _ (by first | assumption | (simp [*]; done)) HX.out.2.2 L HL n HN (by first | assumption | (simp [*]; done))).mono ?_; rintro e we ⟨lo, lc, B, rfl, hBB, hO, hlw2⟩; obtain ⟨l0, l1, l2, l3⟩ := hcs we hlw2))
      have hgB : W0.heap.size < B := by have := hS2.lt; omega
      have hQ3 := hQ2.low hlw2
      have hS3 := hS2.keep hlw2
      have hG3 := hG2.trans (low_grown hlw2 (some W0.heap.size))
      clear hcs hxs r1 r2 hlw hlw2 hLw hQ2 hS2 hG2 g0 g1 g2 g3 l0 l1 l2 l3 c0 c1 c2 c3 hHQ HQ HL HX hS1 hG1' hQ1
      obtain ⟨c0, c1, c2, c3⟩ := hQ3.cells
      by_cases hn0 : n = 0
      · have e3 : ((n : Int) == 0) = true := by simp; omega
        have HK4 : Hid (wrk K1 (lp A C (kp 0 (sub x A b1) (sub y C d1))) = KF) := (by
          show _ = _
          have := HK3.out
          rw [if_pos (List.eq_nil_of_length_eq_zero (by rw [HN.out]; exact hn0))] at this
          exact this)
        clear hn0 HK3 HGs
        go_wp2_with fail
        refine (Least_f x y W0 we _ _ hx hy hxl hyl K1 hS3 A b1 C d1 hAb hbx hCd hdy KF HK4).mono ?_
        rintro e w4 ⟨rfl, hS4, hG4⟩
        have hG5 := hG3.trans hG4
        go_wp2
        (try simp only [Exit.inBlock, Exit.then])
        refine bodyPost_ret (results_none rfl _ _ _) rfl ?_
        exact ⟨rfl, hS4, hG5⟩
      · have e3 : ((n : Int) == 0) = false := by simp; omega
        have HG0 : Hid (Gs (pcs (pmid x y) x y f) A C b1 d1 (L.drop 0) A C K1 KF) := (by
          refine HGs.out KF ?_
          have := HK3.out
          rw [if_neg (fun h => hn0 (by rw [← HN.out, h]; rfl))] at this
          exact this)
        have hb3 := hS3.low.size
        clear HK3 HGs
        go_wp2_with fail
        go_big_quiet (fail)
        have hQ4 := hQ3.low (Below.dN (Below.refl _ we) nq)
        have hS4 := hS3.drewN nq
        have hG4 := grown_drewN hG3 nq
        have hO4 : (we.drewN nq).ownsRow B 26 2 (.slice lo n lc) n (prcells L) := owns_keep hO (Below.dN (Below.refl _ we) nq)
        clear hQ3 hS3 hG3 hO c0 c1 c2 c3
        generalize we.drewN nq = wf at hQ4 hS4 hG4 hO4 ⊢
        go_wp2
        go_loopw [9, 10, 11] (fun av cv iv wr => ∃ (i a' c' : Nat) (K' : List Int), i ≤ n ∧ av = .int .i64 a' ∧ cv = .int .i64 c' ∧ iv = .int .i64 i ∧ Ls W0 W0.heap.size x.length K' wr ∧ w.grownBy wr (some W0.heap.size) ∧ Pbox wr w.heap.size A b1 C d1 ∧ wr.ownsRow B 26 2 (.slice lo n lc) n (prcells L) ∧ (i = 0 ∨ A < a') ∧ Hid (Gs (pcs (pmid x y) x y f) A C b1 d1 (L.drop i) a' c' K' KF)) (fun _ _ iv _ => n - (intOf iv).toNat)
        case atStart => exact ⟨0, A, C, K1, Nat.zero_le _, rfl, rfl, rfl, hS4, hG4, hQ4, hO4, .inl rfl, HG0⟩
        case round =>
          clear hQ4 hS4 hG4 hO4 HG0
          obtain ⟨i, a', c', K', hi, rfl, rfl, rfl, hS, hG, hQ, hO, hia, HG⟩ := hrel
          have hwr := hS.low.size
          have hgr := hG.size
          obtain ⟨c0, c1, c2, c3⟩ := hQ.cells
          by_cases hlt : i < n
          · have hiL : i < L.length := by rw [HN.out]; exact hlt
            obtain ⟨p, hp⟩ : ∃ p, L[i] = p := ⟨_, rfl⟩
            have HG2 : Hid (Gs (pcs (pmid x y) x y f) A C b1 d1 (p :: L.drop (i + 1)) a' c' K' KF) := (by
              have := HG.out
              rw [List.drop_eq_getElem_cons hiL, hp] at this
              exact this)
            obtain ⟨pu, pv, hpu, hpv, q1, q2, q3, q4⟩ := HG2.out.head
            have HG3 : Hid (Gs (pcs (pmid x y) x y f) A C b1 d1 (L.drop (i + 1)) (A + pu + 1) (C + pv + 1) (wrk (wrk K' (pcs (pmid x y) x y f a' (A + pu) c' (C + pv))) (fp (A + pu) (C + pv) 1)) KF) := HG2.out.step hpu hpv
            have hAa := HG2.out.Aa
            have hCc := HG2.out.Cc
            obtain ⟨lb, lf, lcc, hle, _, hcl⟩ := Holds.at (holds_of hO) (by rw [prcells_length]; omega)
            cases hle
            have l0 : wr.cell? ⟨lb, lf + i * 2, none⟩ = some (.int .i64 (pu : Int)) := by
              obtain ⟨t1, t2⟩ := List.getElem?_eq_some_iff.1 (prcells_at L i hiL).1
              have := hcl _ t1
              rw [t2, hp, hpu, show 2 * i = i * 2 by omega] at this
              exact this
            have l1 : wr.cell? ⟨lb, lf + i * 2 + 1, none⟩ = some (.int .i64 (pv : Int)) := by
              obtain ⟨t1, t2⟩ := List.getElem?_eq_some_iff.1 (prcells_at L i hiL).2
              have := hcl _ t1
              rw [t2, hp, hpv, show 2 * i + 1 = i * 2 + 1 by omega] at this
              exact this
            clear hcl HG HG2 hpu hpv hp
            obtain ⟨u, hu⟩ : ∃ u, A + pu = u := ⟨_, rfl⟩
            obtain ⟨v, hv⟩ : ∃ v, C + pv = v := ⟨_, rfl⟩
            rw [hu, hv] at HG3
            rw [hu] at q1 q2
            rw [hv] at q3 q4
            have n1 : (A : Int) + (pu : Int) = (u : Int) := by omega
            have n2 : (C : Int) + (pv : Int) = (v : Int) := by omega
            have n3 : IntKind.i64.wrap (u : Int) = (u : Int) := by rw [IntKind.wrap_i64]; omega
            have n4 : IntKind.i64.wrap (v : Int) = (v : Int) := by rw [IntKind.wrap_i64]; omega
            have i1 : 0 ≤ (i : Int) := by omega
            have i2 : (i : Int) < (n : Int) := by omega
            have i3 : 0 ≤ (u : Int) := by omega
            have i4 : (u : Int) < (x.length : Int) := by omega
            clear hu hv
            go_wp2_with fail
            go_big_quiet (fail)
            have hQq := hQ.low (Below.dN (Below.refl _ wr) nq)
            have hSq := hS.drewN nq
            have hGq := grown_drewN hG nq
            have hOq : (wr.drewN nq).ownsRow B 26 2 (.slice (some ⟨lb, lf, none⟩) n lc) n (prcells L) := owns_keep hO (Below.dN (Below.refl _ wr) nq)
            clear hQ hS hG hO c0 c1 c2 c3 l0 l1
            generalize wr.drewN nq = wg at hQq hSq hGq hOq ⊢
            have hl := hSq.len
            have d0 := hSq.at (List.getElem?_eq_getElem (i := u) (by omega))
            have f1 := hSq.own.frozenAt u
            have hS1 := hSq.set u (v : Int)
            have hgs := grown_set wg W0.heap.size u (.int .i64 (v : Int))
            have hG1 := hGq.trans hgs
            have hQ1 := hQq.keep hgs (by simp; omega)
            have hO1 := holds_grown hOq hgs (by omega)
            have HEq : Hid (wrk (K'.set u (v : Int)) (pcs (pmid x y) x y f a' u c' v) = wrk (wrk K' (pcs (pmid x y) x y f a' u c' v)) (fp u v 1)) := (by
              show _ = _
              rw [wrk_comm K' _ u v (fun q hq => by
                have := (pcs_ok (pmid_ok x y) f a' u c' v q1 (by omega) q3 (by omega)).wn q hq
                unfold Wn at this
                omega)]
              rfl)
            generalize K'[u] = z0 at d0
            obtain ⟨KK, hKK⟩ : ∃ KK, wrk (K'.set u (v : Int)) (pcs (pmid x y) x y f a' u c' v) = KK := ⟨_, rfl⟩
            have HKK : Hid (wrk (K'.set u (v : Int)) (pcs (pmid x y) x y f a' u c' v) = KK) := hKK
            have HG4 : Hid (Gs (pcs (pmid x y) x y f) A C b1 d1 (L.drop (i + 1)) (u + 1) (v + 1) KK KF) := (by
              have := HG3.out
              rw [← HEq.out, hKK] at this
              exact this)
            clear HG3 HEq hKK hSq hGq hQq hOq hgs
            go_wp2_with fail
            refine (ih _ _ hS1 a' u c' v q1 (by omega) q3 (by omega) (by omega) KK HKK).mono ?_
            rintro e w5 ⟨rfl, hS5, hG5⟩
            have hG6 := hG1.trans hG5
            have hQ6 := hQ1.keep hG5 (by simp; omega)
            have hO6 := holds_grown hO1 hG5 (by omega)
            clear hS1 hG1 hQ1 hO1 hG5 d0 f1
            go_wp2
            go_roundw
            case rel => exact ⟨i + 1, u + 1, v + 1, KK, by omega, by go_num, by go_num, by go_num, hS5, hG6, hQ6, hO6, .inr (by omega), HG4⟩
            case measure => simp [intOf]; omega
          · obtain rfl : i = n := by omega
            have hAa := HG.out.Aa
            have hbb := HG.out.ab'
            have hCc := HG.out.Cc
            have hdd := HG.out.cd
            have HE : Hid (wrk K' (pcs (pmid x y) x y f a' b1 c' d1) = KF) := (by
              have := HG.out
              rw [List.drop_of_length_le (by rw [HN.out]; exact Nat.le_refl _)] at this
              exact this.end')
            go_wp2_with fail
            refine (ih wr K' hS a' b1 c' d1 hbb hbx hdd hdy (by omega) KF HE).mono ?_
            rintro e w5 ⟨rfl, hS5, hG5⟩
            have hG6 := hG.trans hG5
            go_wp2
            go_end0
            exact ⟨rfl, hS5, hG6⟩
    · have hk2 : A = b1 ∨ C = d1 := by omega
      have e : K1 = KF := by
        have := HKF.out
        rw [if_neg hm0] at this
        exact this
      subst e
      obtain ⟨c0, c1, c2, c3⟩ := hQ2.cells
      by_cases h1 : A = b1
      · have e1 : ((A : Int) == (b1 : Int)) = true := by simp; omega
        clear hm0 hk2 h1
        go_wp2
        (try simp only [Exit.inBlock, Exit.then])
        refine bodyPost_ret (results_none rfl _ _ _) rfl ?_
        exact ⟨rfl, hS2, hG2⟩
      · have e1 : ((A : Int) == (b1 : Int)) = false := by simp; omega
        have e2 : ((C : Int) == (d1 : Int)) = true := by simp; omega
        clear hm0 hk2 h1
        go_wp2
        (try simp only [Exit.inBlock, Exit.then])
        refine bodyPost_ret (results_none rfl _ _ _) rfl ?_
        exact ⟨rfl, hS2, hG2⟩
end Go.Proofs.Ytheagpbmpnpalaa

/- What an argument of type []redlineref07.Pair holds. -/
namespace Go.Proofs.Ytheagpbmpnpalaa
open Go.ChangeShapes Go.WideShapes Go.ChangeAt Go.RowKit

theorem cellsQr : Try.prog.cellsOf 26 = 2 := by kernel_rfl
/-- a pair of numbers that an int holds -/
def wPr (p : Pr) : Prop := w64 p.X ∧ w64 p.Y

set_option maxRecDepth 10000 in
/-- the pairs that an argument holds -/
theorem open_prs {H : Type} {enc : TypeId × Value → H} {W : World} {fuel : Nat} {ao : Option Addr} {len cap : Nat} {d : DataW H} {p : List MemPlace}
    (h : DataW.trod enc Try.prog W 0 (fun _ => true) true fuel 23 [.slice ao len cap] = some (d, p)) :
    ∃ l : List Pr, HPr W (.slice ao len cap) l ∧ l.length ≤ Rows.uptoBulk d ∧ ∀ c ∈ l, wPr c := by
  rcases Go.Deep.open_slice Try.underlying23 h with ⟨hcs, hx⟩ | ⟨a, l, c, m, n, D, Pl, hcs, _, hl, hm, hmm, hx, hel⟩
  · simp at hcs
    obtain ⟨rfl, rfl, rfl⟩ := hcs
    exact ⟨[], .inl ⟨rfl, rfl, rfl⟩, by simp, by simp⟩
  · simp at hcs
    obtain ⟨rfl, rfl, rfl⟩ := hcs
    simp only [Prod.mk.injEq] at hx
    obtain ⟨rfl, _⟩ := hx
    have hlm : len ≤ m := by rw [hmm]; split <;> omega
    have each : ∀ i, i < len → ∃ c : Pr, wPr c ∧ W.cell? (a.add (i * 2)) = some (.int .i64 c.X) ∧ W.cell? (a.add (i * 2 + 1)) = some (.int .i64 c.Y) ∧ 1 ≤ Rows.uptoBulk (D i) := by
      intro i hi
      obtain ⟨cs', h1, h2⟩ := hel i (by omega)
      rw [cellsQr] at h1
      obtain ⟨_, hlen, hcell⟩ := World.cells?_some h1
      obtain ⟨xs, k, hk, hxy, _, hxl, hf⟩ := DataW.trod_struct Try.underlying26 h2
      match xs, hxl, cs', hlen with
      | [y0, y1], _, [v0, v1], _ =>
        have g0 := hf 0 _ rfl
        have g1 := hf 1 _ rfl
        simp [cellsInt] at g0 g1
        obtain ⟨z0, e0, _, w0⟩ := DataW.trod_int Try.underlying3 g0
        obtain ⟨z1, e1, _, w1⟩ := DataW.trod_int Try.underlying3 g1
        cases e0
        cases e1
        have c0 := hcell 0 (by omega)
        have c1 := hcell 1 (by omega)
        rw [Go.Deep.add_add] at c0 c1
        simp only [Prod.mk.injEq] at hxy
        refine ⟨⟨z0, z1⟩, ⟨w64_of w0, w64_of w1⟩, by simpa using c0, by simpa using c1, ?_⟩
        rw [hxy.1, Rows.uptoBulk]
        omega
    have : Inhabited Pr := ⟨⟨0, 0⟩⟩
    obtain ⟨f, hf⟩ := Go.Deep.choose_lt each
    have hlen : ((List.range len).map f).length = len := by simp
    refine ⟨(List.range len).map f, .inr ⟨a, cap, by rw [hlen], by rw [hlen]; exact hl, fun j u hj => ?_⟩, ?_, ?_⟩
    · have hj' : j < len * 2 := by
        have := (List.getElem?_eq_some_iff.1 hj).1
        rw [prcells_length, hlen] at this
        exact this
      obtain ⟨h0, h1⟩ := prcells_at ((List.range len).map f) (j / 2) (by rw [hlen]; omega)
      obtain ⟨_, g0, g1, _⟩ := hf (j / 2) (by omega)
      simp only [List.getElem_map, List.getElem_range] at h0 h1
      rcases (by omega : j = 2 * (j / 2) ∨ j = 2 * (j / 2) + 1) with e | e
      · rw [e, h0] at hj
        rw [e, Nat.mul_comm, g0, hj]
      · rw [e, h1] at hj
        rw [e, Nat.mul_comm, g1, hj]
    · rw [hlen, Rows.uptoBulk]
      have := bulk_range D len fun i hi => (hf i hi).2.2.2
      omega
    · intro c hc
      simp only [List.mem_map, List.mem_range] at hc
      obtain ⟨i, hi, rfl⟩ := hc
      exact (hf i hi).1
end Go.Proofs.Ytheagpbmpnpalaa

/- patience.Diff and the reference's Diff, walked. -/
namespace Go.Proofs.Ytheagpbmpnpalaa
open Go.RowKit

/-- what patience keeps -/
def pKeep (x y : List Int) : List Int := wrk (List.replicate x.length (-1)) (pcs (pmid x y) x y (x.length + 1) 0 x.length 0 y.length)
theorem pKeep_ok (x y : List Int) : Okp x y 0 x.length 0 y.length (pcs (pmid x y) x y (x.length + 1) 0 x.length 0 y.length) := pcs_ok (pmid_ok x y) _ 0 x.length 0 y.length (Nat.zero_le _) (Nat.le_refl _) (Nat.zero_le _) (Nat.le_refl _)
theorem pKeep_kpt (x y : List Int) : Kpt x y (pKeep x y) := (pKeep_ok x y).kpt

set_option maxRecDepth 10000 in
set_option maxHeartbeats 2000000 in
theorem paDiff_f (x y : List Int) (vx vy : Value) (w : World) (hx : HI w vx x) (hy : HI w vy y) (hxl : x.length ≤ 4096) (hyl : y.length ≤ 4096) (hwx : ∀ c ∈ x, w64 c) (hwy : ∀ c ∈ y, w64 c) (L : List Ch) (hL : Hid (mkL (pKeep x y) y.length = L)) :
    Calls Try.prog 12 #[vx, vy] w fun e w' => ∃ v', e = .returned (.tuple #[v', .int .i64 0]) ∧ HCh w' v' L ∧ Below w.heap.size w w' := by
  obtain ⟨xo, xc, rfl⟩ := Holds.form hx
  obtain ⟨yo, yc, rfl⟩ := Holds.form hy
  obtain ⟨KF, hKF⟩ : ∃ KF, pKeep x y = KF := ⟨_, rfl⟩
  have HK : Hid (Kpt x y KF) := (by rw [← hKF]; exact pKeep_kpt x y)
  have HF : Hid (wrk (List.replicate x.length (-1)) (pcs (pmid x y) x y (x.length + 1) 0 x.length 0 y.length) = KF) := hKF
  rw [hKF] at hL
  have HWX : Hid (∀ c ∈ x, w64 c) := hwx
  have HWY : Hid (∀ c ∈ y, w64 c) := hwy
  clear hKF hwx hwy
  go_enter Try.func12, Try.ntmps12
  go_wp2_with fail
  have hW1 : Below w.heap.size w (w.alloc (.cells #[.func (.func 25) #[] #[.pointer (some ⟨w.heap.size, 0, none⟩)]] 55)) := (Below.refl _ w).alloc (Nat.le_refl _) _
  have hf0 : (w.alloc (.cells #[.func (.func 25) #[] #[.pointer (some ⟨w.heap.size, 0, none⟩)]] 55)).cell? ⟨w.heap.size, 0, none⟩ = some (.func (.func 25) #[] #[.pointer (some ⟨w.heap.size, 0, none⟩)]) := by
    rw [Lib.cell_of_heap (_root_.Go.heap_alloc_new w _)]
    rfl
  refine (pDiff_f x y _ _ _ (HI.keep hx hW1 (Nat.le_refl _)) (HI.keep hy hW1 (Nat.le_refl _)) hxl hyl 25 #[.pointer (some ⟨w.heap.size, 0, none⟩)] (enters_of Try.func25 (by kernel_rfl) rfl) KF HK (fun u g xo xc yo yc hS hp => find_f x y _ g w.heap.size hf0 hxl hyl HWX.out HWY.out (x.length + 1) u _ hS 0 x.length 0 y.length _ _ _ _ _ _ _ _ hp (by omega) KF HF) L hL).mono ?_
  rintro e w2 ⟨v2, rfl, hv2, hB2⟩
  have hB := hW1.trans (hB2.mono (by simp))
  clear hf0
  go_wp2
  go_ret2
  exact ⟨_, rfl, hv2, hB⟩
set_option maxHeartbeats 2000000 in
theorem paDiff_long (x y : List Int) (vx vy : Value) (w : World) (hx : HI w vx x) (hy : HI w vy y) (hl : 4096 < x.length ∨ 4096 < y.length) :
    Calls Try.prog 12 #[vx, vy] w fun e w' => e = .returned (.tuple #[.slice none 0 0, .int .i64 9]) ∧ Below w.heap.size w w' := by
  obtain ⟨xo, xc, rfl⟩ := Holds.form hx
  obtain ⟨yo, yc, rfl⟩ := Holds.form hy
  have HL : Hid (4096 < x.length ∨ 4096 < y.length) := hl
  clear hl
  go_enter Try.func12, Try.ntmps12
  go_wp2_with fail
  have hW1 : Below w.heap.size w (w.alloc (.cells #[.func (.func 25) #[] #[.pointer (some ⟨w.heap.size, 0, none⟩)]] 55)) := (Below.refl _ w).alloc (Nat.le_refl _) _
  refine (pDiff_long x y _ _ _ _ (HI.keep hx hW1 (Nat.le_refl _)) (HI.keep hy hW1 (Nat.le_refl _)) HL.out).mono ?_
  rintro e w2 ⟨rfl, rfl⟩
  go_wp2
  go_ret2
  exact ⟨rfl, hW1⟩

set_option maxRecDepth 10000 in
set_option maxHeartbeats 2000000 in
theorem rpaDiff_f (x y : List Int) (vx vy : Value) (w : World) (hx : HI w vx x) (hy : HI w vy y) (hxl : x.length ≤ 4096) (hyl : y.length ≤ 4096) (L : List Ch) (hL : Hid (mkL (pKeep x y) y.length = L)) :
    Calls Try.prog 13 #[vx, vy] w fun e w' => ∃ v', e = .returned (.tuple #[v', .int .i64 0]) ∧ HCh w' v' L ∧ Below w.heap.size w w' := by
  obtain ⟨xo, xc, rfl⟩ := Holds.form hx
  obtain ⟨yo, yc, rfl⟩ := Holds.form hy
  obtain ⟨KF, hKF⟩ : ∃ KF, pKeep x y = KF := ⟨_, rfl⟩
  have HK : Hid (Kpt x y KF) := (by rw [← hKF]; exact pKeep_kpt x y)
  have HF : Hid (wrk (List.replicate x.length (-1)) (pcs (pmid x y) x y (x.length + 1) 0 x.length 0 y.length) = KF) := hKF
  rw [hKF] at hL
  clear hKF
  have e1 : decide ((4096 : Int) < (x.length : Int)) = false := decide_eq_false (by omega)
  have e2 : decide ((4096 : Int) < (y.length : Int)) = false := decide_eq_false (by omega)
  go_enter Try.func13, Try.ntmps13
  go_wp2_with fail
  refine (None_f x.length w (by omega)).mono ?_
  rintro e w1 ⟨rfl, hO1, hB1⟩
  have hS1 : Ls w w.heap.size x.length (List.replicate x.length (-1)) w1 := ⟨hB1, hO1⟩
  clear hO1 hB1
  go_wp2_with fail
  refine (rpiece_f x y w _ _ hx hy hxl hyl (x.length + 1) w1 _ hS1 0 x.length 0 y.length (Nat.zero_le _) (Nat.le_refl _) (Nat.zero_le _) (Nat.le_refl _) (by omega) KF HF).mono ?_
  rintro e w2 ⟨rfl, hS2, hG2⟩
  have hKl := HK.out.len
  have hv2 : HI w2 (.slice (some ⟨w.heap.size, 0, none⟩) x.length x.length) KF := by
    unfold HI
    rw [hKl]
    exact holds_of hS2.own
  have HKL : Hid (KF.length = x.length) := hKl
  clear hKl
  go_wp2_with fail
  refine (rMake_f KF y.length L _ w2 hv2 (by have := HKL.out; omega) HK.out.vk (by omega) (by omega) hL).mono ?_
  rintro e w3 ⟨v3, rfl, hv3, hB3⟩
  have hB := hS2.low.trans (hB3.mono hS2.low.size)
  clear hv2
  go_wp2
  go_ret2
  exact ⟨_, rfl, hv3, hB⟩
end Go.Proofs.Ytheagpbmpnpalaa

/- What patience keeps is honest, and what it keeps for sure: plain. -/
namespace Go.Proofs.Ytheagpbmpnpalaa

theorem pKeep_front (x y : List Int) (i : Nat) (hi : i < tf x y 0 x.length 0 y.length) : (pKeep x y)[i]? = some (i : Int) := by
  have hm : (⟨(i : Int), (i : Int)⟩ : Pr) ∈ pcs (pmid x y) x y (x.length + 1) 0 x.length 0 y.length := by
    rw [pcs, ends, List.mem_append]
    exact .inl (mem_fp.2 ⟨i, hi, by simp⟩)
  have := (pKeep_ok x y).at hm
  simpa [pKeep] using this
theorem tf_fr (x y : List Int) : ∀ i, i ≤ x.length → i ≤ y.length → tf x y i x.length i y.length = fr (x.drop i) (y.drop i) := by
  intro i
  induction h : x.length - i generalizing i with
  | zero =>
    intro h1 h2
    rw [tf_eq, if_neg (by omega), List.drop_of_length_le (by omega)]
    simp [fr]
  | succ n ih =>
    intro h1 h2
    by_cases hy : i < y.length
    · rw [tf_eq, fr_step x y i (by omega) hy]
      rw [List.getElem?_eq_getElem (by omega), List.getElem?_eq_getElem hy]
      by_cases e : x[i] = y[i]
      · rw [if_pos ⟨by omega, hy, by rw [e]⟩, if_pos e, ih (i + 1) (by omega) (by omega) (by omega)]
      · rw [if_neg (fun q => e (by simpa using q.2.2)), if_neg e]
    · rw [tf_eq, if_neg (by omega), List.drop_of_length_le (l := y) (by omega)]
      cases x.drop i <;> simp [fr]
/-- equal texts have no changes, others have some -/
theorem pKeep_nil (x y : List Int) (hx : x.length ≤ 4096) (hy : y.length ≤ 4096) : mkL (pKeep x y) y.length = [] ↔ x = y := by
  constructor
  · exact nil_same (pKeep_kpt x y).vk (pKeep_kpt x y).len (pKeep_kpt x y).eqs hx hy
  · rintro rfl
    have e : pKeep x x = (List.range x.length).map fun (j : Nat) => (0 : Int) + (j : Int) := by
      apply List.ext_getElem?
      intro i
      by_cases hi : i < x.length
      · rw [pKeep_front x x i (by rw [tf_all]; omega)]
        simp [hi]
      · rw [List.getElem?_eq_none (by rw [(pKeep_kpt x x).len]; omega), List.getElem?_eq_none (by simp; omega)]
    rw [e]
    exact mk_id x.length
theorem pKeep_le (x y : List Int) : prs (pKeep x y) ≤ lc x y := by
  have := hon_le (pKeep x y) x y 0 (pKeep_kpt x y).vk (pKeep_kpt x y).len (pKeep_kpt x y).eqs
  simpa using this
theorem pKeep_first (x y : List Int) (hx : x.length ≤ 4096) (hy : y.length ≤ 4096) {c : Ch} {L : List Ch} (h : mkL (pKeep x y) y.length = c :: L) : (fr x y : Int) ≤ c.A := by
  refine front_le (pKeep_kpt x y).vk (by rw [(pKeep_kpt x y).len]; exact hx) hy h (fr x y) (fun i hi => pKeep_front x y i ?_)
  rw [tf_fr x y 0 (Nat.zero_le _) (Nat.zero_le _)]
  simpa using hi
end Go.Proofs.Ytheagpbmpnpalaa

/- The worked example of the layer patience, walked. -/
namespace Go.Proofs.Ytheagpbmpnpalaa
open Go.RowKit

theorem ex_pa : pcs (pmid [1, 2, 1, 3] [3, 2, 4]) [1, 2, 1, 3] [3, 2, 4] 5 0 4 0 3 = [⟨1, 1⟩] := by
  have t1 : tf [1, 2, 1, 3] [3, 2, 4] 0 4 0 3 = 0 := by rw [tf_eq]; simp
  have t2 : tb [1, 2, 1, 3] [3, 2, 4] 0 4 0 3 = 0 := by rw [tb]; simp
  have t3 : tf [1, 2, 1, 3] [3, 2, 4] 0 1 0 1 = 0 := by rw [tf_eq]; simp
  have t4 : tb [1, 2, 1, 3] [3, 2, 4] 0 1 0 1 = 0 := by rw [tb]; simp
  have t5 : tf [1, 2, 1, 3] [3, 2, 4] 2 4 2 3 = 0 := by rw [tf_eq]; simp
  have t6 : tb [1, 2, 1, 3] [3, 2, 4] 2 4 2 3 = 0 := by rw [tb]; simp
  have u1 : lng (unq (sub [1, 2, 1, 3] 0 4) (sub [3, 2, 4] 0 3)) = [⟨1, 1⟩] := by rfl
  have u2 : lng (unq (sub [1, 2, 1, 3] 0 1) (sub [3, 2, 4] 0 1)) = [] := by rfl
  have u3 : lng (unq (sub [1, 2, 1, 3] 2 4) (sub [3, 2, 4] 2 3)) = [] := by rfl
  have k2 : lp 0 0 (kp 0 (sub [1, 2, 1, 3] 0 1) (sub [3, 2, 4] 0 1)) = [] := by simp [sub, kp, lc, lp]
  have k3 : lp 2 2 (kp 0 (sub [1, 2, 1, 3] 2 4) (sub [3, 2, 4] 2 3)) = [] := by simp [sub, kp, lc, lp]
  have p2 : pcs (pmid [1, 2, 1, 3] [3, 2, 4]) [1, 2, 1, 3] [3, 2, 4] 4 0 1 0 1 = [] := by
    rw [pcs, ends, t3, t4]
    simp [fp, bp, pmid, u2, k2]
  have p3 : pcs (pmid [1, 2, 1, 3] [3, 2, 4]) [1, 2, 1, 3] [3, 2, 4] 4 2 4 2 3 = [] := by
    rw [pcs, ends, t5, t6]
    simp [fp, bp, pmid, u3, k3]
  rw [pcs, ends, t1, t2]
  simp [fp, bp, pmid, u1, gos, p2, p3]
theorem ex_keep : pKeep [1, 2, 1, 3] [3, 2, 4] = [-1, 1, -1, -1] := by
  unfold pKeep
  show wrk _ (pcs (pmid [1, 2, 1, 3] [3, 2, 4]) [1, 2, 1, 3] [3, 2, 4] 5 0 4 0 3) = _
  rw [ex_pa]
  rfl
theorem ex_pmk : mkL (pKeep [1, 2, 1, 3] [3, 2, 4]) (([3, 2, 4] : List Int).length : Int) = [⟨0, 1, 0, 1⟩, ⟨2, 2, 2, 1⟩] := by rw [ex_keep]; rfl
theorem ex_unq : (unq [1, 2, 1, 3] [3, 2, 4]).length = 2 := by rfl
end Go.Proofs.Ytheagpbmpnpalaa

/- The law's own test works, of the layer patience, walked. -/
namespace Go.Proofs.Ytheagpbmpnpalaa
open Go.RowKit

theorem w64s (l : List Int) (h : l.all (fun z => decide (-1000 ≤ z ∧ z ≤ 1000)) = true) : ∀ c ∈ l, w64 c := by
  intro c hc
  have := of_decide_eq_true (List.all_eq_true.1 h c hc)
  exact ⟨by omega, by omega⟩
set_option maxRecDepth 10000 in
set_option maxHeartbeats 2000000 in
theorem paWorks_any (w : World) : Calls Try.prog 16 #[] w fun e w' => e = .returned (.bool true) ∧ Below w.heap.size w w' := by
  go_enter Try.func16, Try.ntmps16
  obtain ⟨hX, hY, hB0⟩ := two_rows w #[.int .i64 1, .int .i64 2, .int .i64 1, .int .i64 3] #[.int .i64 3, .int .i64 2, .int .i64 4] 4 3 (w.heap.size + 1) rfl [1, 2, 1, 3] [3, 2, 4] rfl rfl rfl rfl
  go_wp2_with fail
  refine (paDiff_f [1, 2, 1, 3] [3, 2, 4] _ _ _ hX hY (by decide) (by decide) (w64s _ (by decide)) (w64s _ (by decide)) _ ex_pmk).mono ?_
  rintro e w1 ⟨v1, rfl, hv1, hB1⟩
  obtain ⟨o1, c1, rfl⟩ := Holds.form hv1
  have hB01 := hB0.trans (hB1.mono hB0.size)
  clear hX hY hB0 hB1
  have hnew : HCh (w1.alloc (.cells #[.int .i64 0, .int .i64 1, .int .i64 0, .int .i64 1, .int .i64 2, .int .i64 2, .int .i64 2, .int .i64 1] 46)) (.slice (some ⟨w1.heap.size, 0, none⟩) 2 2) [⟨0, 1, 0, 1⟩, ⟨2, 2, 2, 1⟩] := new_holds w1 _ _ 2 2 (by decide)
  have hv2 := HCh.keep hv1 ((Below.refl _ w1).alloc (Nat.le_refl _) (.cells #[.int .i64 0, .int .i64 1, .int .i64 0, .int .i64 1, .int .i64 2, .int .i64 2, .int .i64 2, .int .i64 1] 46)) (Nat.le_refl _)
  go_wp2_with fail
  refine (SameC_any _ _ [⟨0, 1, 0, 1⟩, ⟨2, 2, 2, 1⟩] _ (by decide) hv2 hnew).mono ?_
  rintro e w3 ⟨rfl, hB3⟩
  have hB03 : Below w.heap.size w w3 := (hB01.alloc hB01.size _).trans (hB3.mono (by have := hB01.size; simp; omega))
  clear hB3 hB01 hv1 hv2 hnew
  obtain ⟨hX, hY, hB4⟩ := two_rows w3 #[.int .i64 1, .int .i64 2, .int .i64 1, .int .i64 3] #[.int .i64 3, .int .i64 2, .int .i64 4] 4 3 (w3.heap.size + 1) rfl [1, 2, 1, 3] [3, 2, 4] rfl rfl rfl rfl
  go_wp2_with fail
  refine (Unique_f [1, 2, 1, 3] [3, 2, 4] _ _ _ hX hY (by decide) (by decide) (w64s _ (by decide)) (w64s _ (by decide)) _ rfl).mono ?_
  rintro e w5 ⟨v5, rfl, hv5, hB5⟩
  obtain ⟨o5, c5, rfl⟩ := Holds.form hv5
  have hB45 := hB4.trans (hB5.mono hB4.size)
  have hB05 := hB03.trans (hB45.mono hB03.size)
  clear hX hY hv5
  go_wp2
  go_ret
  exact ⟨rfl, hB05⟩
end Go.Proofs.Ytheagpbmpnpalaa

/- Lines that are there once, in one order in both, are all kept: plain. -/
namespace Go.Proofs.Ytheagpbmpnpalaa

theorem mxl_all (p : Pr) : ∀ (t : List Pr) (ns : List Nat), t.length = ns.length → (∀ q ∈ t, ab q p) → mxl p t ns = mxn ns := by
  intro t
  induction t with
  | nil =>
    intro ns h _
    cases ns with
    | nil => rfl
    | cons n ns => simp at h
  | cons q t ih =>
    intro ns h hq
    cases ns with
    | nil => simp at h
    | cons n ns => rw [mxl, if_pos (hq q (List.mem_cons_self ..)), ih ns (by simpa using h) (fun r hr => hq r (List.mem_cons_of_mem _ hr)), mxn]
theorem rl_up (l : List Pr) (h : l.Pairwise fun p q => ab q p) : mxn (rl l) = l.length ∧ ∀ last : Option Pr, (∀ q, last = some q → ∀ p ∈ l, ab p q) → pick l.length last l (rl l) = l := by
  induction l with
  | nil => exact ⟨rfl, fun _ _ => by simp [pick]⟩
  | cons p t ih =>
    have h' := List.pairwise_cons.1 h
    obtain ⟨h1, h2⟩ := ih h'.2
    have e : mxl p t (rl t) = t.length := by rw [mxl_all p t (rl t) (rl_length t).symm h'.1, h1]
    refine ⟨?_, fun last hl => ?_⟩
    · rw [rl, mxn, e, h1, List.length_cons]
      omega
    · rw [rl, pick, e, List.length_cons, if_pos ⟨rfl, fun q hq => hl q hq p (List.mem_cons_self ..)⟩, Nat.add_sub_cancel, h2 (some p) (fun q hq r hr => by cases hq; exact h'.1 r hr)]
theorem lng_up (l : List Pr) (h : l.Pairwise fun p q => ab q p) : lng l = l := by
  obtain ⟨h1, h2⟩ := rl_up l h
  unfold lng
  rw [h1]
  exact h2 none (fun q hq => by cases hq)
theorem uq_upX (x0 y0 : List Int) (x : List Int) : ∀ i : Int, (uq x0 y0 i x).Pairwise fun p q => p.X < q.X := by
  induction x with
  | nil => intro i; exact List.Pairwise.nil
  | cons a x ih =>
    intro i
    rw [uq]
    refine List.pairwise_append.2 ⟨?_, ih (i + 1), fun p hp q hq => ?_⟩
    · split
      · rename_i h
        have hl := ps_length a i 0 y0
        rw [h.2] at hl
        obtain ⟨r, hr⟩ := List.length_eq_one_iff.1 hl
        rw [hr]
        exact List.pairwise_singleton _ _
      · exact List.Pairwise.nil
    · split at hp
      · have h1 := ps_mem y0 0 p hp
        have h2 := uq_mem x0 y0 x (i + 1) q hq
        omega
      · simp at hp
/-- neighbours that rise make a row that rises -/
theorem up_of (l : List Pr) (hX : l.Pairwise fun p q => p.X < q.X) (hY : ∀ k (h : k + 1 < l.length), l[k].Y < l[k + 1].Y) : l.Pairwise fun p q => ab q p := by
  induction l with
  | nil => exact List.Pairwise.nil
  | cons p t ih =>
    have hX' := List.pairwise_cons.1 hX
    have ht := ih hX'.2 (fun k h => hY (k + 1) (by rw [List.length_cons]; omega))
    refine List.Pairwise.cons (fun q hq => ⟨hX'.1 q hq, ?_⟩) ht
    cases t with
    | nil => simp at hq
    | cons r t =>
      have h0 := hY 0 (by simp)
      simp at h0
      rcases List.mem_cons.1 hq with rfl | hq
      · exact h0
      · have := ((List.pairwise_cons.1 ht).1 q hq).2
        omega
theorem mem_gos (rec : Nat → Nat → Nat → Nat → List Pr) (A C b d : Nat) (L : List Pr) : ∀ a c, ∀ p ∈ L, (⟨(A + p.X.toNat : Nat), (C + p.Y.toNat : Nat)⟩ : Pr) ∈ gos rec A C b d a c L := by
  induction L with
  | nil => intro a c p hp; simp at hp
  | cons q L ih =>
    intro a c p hp
    rw [gos, List.mem_append, List.mem_cons]
    rcases List.mem_cons.1 hp with rfl | hp
    · exact .inr (.inl rfl)
    · exact .inr (.inr (ih _ _ p hp))
theorem pKeep_once (x y : List Int) (hx : 0 < x.length) (hy : 0 < y.length) (h0 : x[0]? ≠ y[0]?) (h1 : x[x.length - 1]? ≠ y[y.length - 1]?) (hY : ∀ k (h : k + 1 < (unq x y).length), (unq x y)[k].Y < (unq x y)[k + 1].Y) : ∀ p ∈ unq x y, (pKeep x y)[p.X.toNat]? = some p.Y := by
  intro p hp
  have hb := uq_mem x y x 0 p hp
  have hl := lng_up (unq x y) (up_of _ (uq_upX x y x 0) hY)
  have t1 : tf x y 0 x.length 0 y.length = 0 := by rw [tf_eq, if_neg (fun h => h0 h.2.2)]
  have t2 : tb x y 0 x.length 0 y.length = 0 := by rw [tb, if_neg (fun h => h1 h.2.2)]
  have hm : (⟨(p.X.toNat : Nat), (p.Y.toNat : Nat)⟩ : Pr) ∈ pcs (pmid x y) x y (x.length + 1) 0 x.length 0 y.length := by
    rw [pcs, ends, t1, t2]
    simp only [Nat.add_zero, Nat.sub_zero]
    rw [List.mem_append, List.mem_append, if_pos ⟨hx, hy⟩]
    refine .inr (.inr ?_)
    have e : pmid x y (pcs (pmid x y) x y x.length) 0 x.length 0 y.length = gos (pcs (pmid x y) x y x.length) 0 0 x.length y.length 0 0 (unq x y) := by
      rw [pmid, sub_all, sub_all, hl, if_neg (fun h => by rw [h] at hp; simp at hp)]
    rw [e]
    have := mem_gos (pcs (pmid x y) x y x.length) 0 0 x.length y.length (unq x y) 0 0 p hp
    rw [Nat.zero_add, Nat.zero_add] at this
    exact this
  have := (pKeep_ok x y).at hm
  simp only [Int.toNat_natCast] at this
  rw [show (p.Y.toNat : Int) = p.Y by omega] at this
  exact this
end Go.Proofs.Ytheagpbmpnpalaa

/- Which lists of changes are edit scripts: the reference's Check, walked. -/
namespace Go.Proofs.Ytheagpbmpnpalaa
open Go.RowKit

theorem count_any (z : Int) (w : World) : Calls Try.prog 56 #[.int .i64 z] w fun e w' => e = .returned (.bool (nat31 z)) ∧ w' = w := by
  by_cases h0 : 0 ≤ z
  · by_cases h1 : z ≤ 2147483647
    · go_enter Try.func56, Try.ntmps56
      go_wp2
      go_ret
      simp [nat31, h0, h1]
    · go_enter Try.func56, Try.ntmps56
      go_wp2
      go_ret
      simp [nat31, h0, h1]
  · go_enter Try.func56, Try.ntmps56
    go_wp2
    go_ret
    have : ¬ 0 ≤ z := by omega
    simp [nat31, this]


set_option maxRecDepth 10000 in
set_option maxHeartbeats 4000000 in
theorem rCheck_f (l : List Ch) (n m r : Int) (v : Value) (w : World) (hl : HCh w v l) (hlen : l.length ≤ 1099511627776) (hn : n ≤ 9223372036854775807) (hm : m ≤ 9223372036854775807) (hr : Hid (chk l n m = r)) :
    Calls Try.prog 41 #[v, .int .i64 n, .int .i64 m] w fun e w' => e = .returned (.int .i64 r) ∧ Below w.heap.size w w' := by
  obtain ⟨ao, ca, rfl⟩ := Holds.form hl
  by_cases hn0 : n < 0
  · go_enter Try.func41, Try.ntmps41
    go_wp2
    go_ret
    refine ⟨ret_int ?_, Below.refl _ w⟩
    rw [← hr.out, chk_no (fun h => by have := h.1; omega)]
  by_cases hm0 : m < 0
  · go_enter Try.func41, Try.ntmps41
    go_wp2
    go_ret
    refine ⟨ret_int ?_, Below.refl _ w⟩
    rw [← hr.out, chk_no (fun h => by have := h.2.1; omega)]
  go_enter Try.func41, Try.ntmps41
  go_wp2
  go_loopw [7, 8, 9] (fun av bv iv wr => ∃ (k : Nat) (a b : Int), k ≤ l.length ∧ av = .int .i64 a ∧ bv = .int .i64 b ∧ iv = .int .i64 k ∧ 0 ≤ a ∧ a ≤ 4294967294 ∧ 0 ≤ b ∧ b ≤ 4294967294 ∧ Below w.heap.size w wr ∧ Hid (Script l n m ↔ Right (decide (k = 0)) a b n m (l.drop k))) (fun _ _ iv _ => l.length - (intOf iv).toNat)
  case atStart => exact ⟨0, 0, 0, Nat.zero_le _, rfl, rfl, rfl, by omega, by omega, by omega, by omega, Below.refl _ w, (by show _ ↔ _; simp only [Script, List.drop_zero, decide_true]; constructor; exact fun h => h.2.2; exact fun h => ⟨by omega, by omega, h⟩)⟩
  case round =>
    obtain ⟨k, a, b, hk, rfl, rfl, rfl, ha, han, hb, hbm, hB, hR⟩ := hrel
    by_cases hlt : k < l.length
    · obtain ⟨bk, off, rfl, hbk, hc⟩ := HCh.at (HCh.keep hl hB (Nat.le_refl _)) (by omega)
      obtain ⟨c0, c1, c2, c3⟩ := hc k hlt
      have hR' := hR.out
      rw [List.drop_eq_getElem_cons hlt] at hR'
      obtain ⟨c, hcd⟩ : ∃ c, l[k] = c := ⟨_, rfl⟩
      rw [hcd] at hR' c0 c1 c2 c3
      clear hc hcd hR
      have HR : Hid (Script l n m ↔ Right (decide (k = 0)) a b n m (c :: l.drop (k + 1))) := hR'
      clear hR'
      have i1 : 0 ≤ (k : Int) := by omega
      have i2 : (k : Int) < (l.length : Int) := by omega
      obtain ⟨A, AN, B, BN⟩ := c
      dsimp only at c0 c1 c2 c3
      have hsz := hB.size
      have hB2 : Below w.heap.size w (wr.alloc (Obj.cells #[Value.int IntKind.i64 A, Value.int IntKind.i64 AN, Value.int IntKind.i64 B, Value.int IntKind.i64 BN] 46)) := hB.alloc hsz _
      by_cases nA : nat31 A = true
      · by_cases nAN : nat31 AN = true
        · by_cases nB : nat31 B = true
          · by_cases nBN : nat31 BN = true
            · have pA : 0 ≤ A ∧ A ≤ 2147483647 := by simpa [nat31] using nA
              have pAN : 0 ≤ AN ∧ AN ≤ 2147483647 := by simpa [nat31] using nAN
              have pB : 0 ≤ B ∧ B ≤ 2147483647 := by simpa [nat31] using nB
              have pBN : 0 ≤ BN ∧ BN ≤ 2147483647 := by simpa [nat31] using nBN
              obtain ⟨pA0, pA1⟩ := pA
              obtain ⟨pAN0, pAN1⟩ := pAN
              obtain ⟨pB0, pB1⟩ := pB
              obtain ⟨pBN0, pBN1⟩ := pBN
              by_cases h0 : AN + BN = 0
              · go_wp2_with (go_at_call 56; refine (count_any _ _).mono ?_; rintro e w' ⟨rfl, rfl⟩)
                go_ret
                refine ⟨ret_int ?_, hB2⟩
                rw [← hr.out, chk_no]
                exact fun h => by obtain ⟨⟨q1, q2, q3, q4⟩, q5⟩ := HR.out.1 h; rw [numB_iff] at q1; dsimp only at q1; omega
              have HQ : Hid (numB ⟨A, AN, B, BN⟩ = true) := (by show _ = _; rw [numB_iff]; dsimp only; omega)
              by_cases h1 : A - a = B - b
              · by_cases h4 : A < a
                · go_wp2_with (go_at_call 56; refine (count_any _ _).mono ?_; rintro e w' ⟨rfl, rfl⟩)
                  go_ret
                  refine ⟨ret_int ?_, hB2⟩
                  rw [← hr.out, chk_no]
                  exact fun h => by obtain ⟨⟨q1, q2, q3, q4⟩, q5⟩ := HR.out.1 h; dsimp only at q3; omega
                by_cases h6 : 0 < (k : Int)
                · by_cases h5 : A = a
                  · subst h5
                    go_wp2_with (go_at_call 56; refine (count_any _ _).mono ?_; rintro e w' ⟨rfl, rfl⟩)
                    go_ret
                    refine ⟨ret_int ?_, hB2⟩
                    rw [← hr.out, chk_no]
                    exact fun h => by obtain ⟨⟨q1, q2, q3, q4⟩, q5⟩ := HR.out.1 h; rcases q4 with q4 | q4; (have := of_decide_eq_true q4; omega); (dsimp only at q4; omega)
                  · have h5a : a < A := by omega
                    have h5b : decide (A = a) = false := decide_eq_false h5
                    have h5c : (A == a) = false := by simpa using h5
                    go_wp2_with (go_at_call 56; refine (count_any _ _).mono ?_; rintro e w' ⟨rfl, rfl⟩)
                    go_roundw
                    case rel => exact ⟨k + 1, A + AN, B + BN, by omega, by go_num, by go_num, by go_num, by omega, by omega, by omega, by omega, hB2, (by
                      show _ ↔ _
                      refine HR.out.trans ?_
                      have : decide (k + 1 = 0) = false := by simp
                      rw [this]
                      exact ⟨fun h => h.2, fun h => ⟨⟨HQ.out, h1, by dsimp only; omega, .inr (by dsimp only; omega)⟩, h⟩⟩)⟩
                    case measure => simp [intOf]; omega
                · go_wp2_with (go_at_call 56; refine (count_any _ _).mono ?_; rintro e w' ⟨rfl, rfl⟩)
                  go_roundw
                  case rel => exact ⟨k + 1, A + AN, B + BN, by omega, by go_num, by go_num, by go_num, by omega, by omega, by omega, by omega, hB2, (by
                    show _ ↔ _
                    refine HR.out.trans ?_
                    have : decide (k + 1 = 0) = false := by simp
                    rw [this]
                    exact ⟨fun h => h.2, fun h => ⟨⟨HQ.out, h1, by dsimp only; omega, .inl (decide_eq_true (by omega))⟩, h⟩⟩)⟩
                  case measure => simp [intOf]; omega
              · go_wp2_with (go_at_call 56; refine (count_any _ _).mono ?_; rintro e w' ⟨rfl, rfl⟩)
                go_ret
                refine ⟨ret_int ?_, hB2⟩
                rw [← hr.out, chk_no]
                exact fun h => by obtain ⟨⟨q1, q2, q3, q4⟩, q5⟩ := HR.out.1 h; dsimp only at q2; omega
            · rw [Bool.not_eq_true] at nBN
              go_wp2_with (go_at_call 56; refine (count_any _ _).mono ?_; rintro e w' ⟨rfl, rfl⟩)
              go_ret
              refine ⟨ret_int ?_, hB2⟩
              rw [← hr.out, chk_no]
              exact fun h => by obtain ⟨⟨q1, q2, q3, q4⟩, q5⟩ := HR.out.1 h; rw [numB_iff] at q1; dsimp only at q1; simp [nat31] at nBN; omega
          · rw [Bool.not_eq_true] at nB
            go_wp2_with (go_at_call 56; refine (count_any _ _).mono ?_; rintro e w' ⟨rfl, rfl⟩)
            go_ret
            refine ⟨ret_int ?_, hB2⟩
            rw [← hr.out, chk_no]
            exact fun h => by obtain ⟨⟨q1, q2, q3, q4⟩, q5⟩ := HR.out.1 h; rw [numB_iff] at q1; dsimp only at q1; simp [nat31] at nB; omega
        · rw [Bool.not_eq_true] at nAN
          go_wp2_with (go_at_call 56; refine (count_any _ _).mono ?_; rintro e w' ⟨rfl, rfl⟩)
          go_ret
          refine ⟨ret_int ?_, hB2⟩
          rw [← hr.out, chk_no]
          exact fun h => by obtain ⟨⟨q1, q2, q3, q4⟩, q5⟩ := HR.out.1 h; rw [numB_iff] at q1; dsimp only at q1; simp [nat31] at nAN; omega
      · rw [Bool.not_eq_true] at nA
        go_wp2_with (go_at_call 56; refine (count_any _ _).mono ?_; rintro e w' ⟨rfl, rfl⟩)
        go_ret
        refine ⟨ret_int ?_, hB2⟩
        rw [← hr.out, chk_no]
        exact fun h => by obtain ⟨⟨q1, q2, q3, q4⟩, q5⟩ := HR.out.1 h; rw [numB_iff] at q1; dsimp only at q1; simp [nat31] at nA; omega
    · have hE := hR.out
      rw [List.drop_of_length_le (by omega)] at hE
      have HE : Hid (Script l n m ↔ a ≤ n ∧ b ≤ m ∧ n - a = m - b) := hE
      clear hE hR
      by_cases e1 : n < a
      · go_wp2
        go_ret
        refine ⟨ret_int ?_, hB⟩
        rw [← hr.out, chk_no]
        exact fun h => by have := HE.out.1 h; omega
      by_cases e2 : m < b
      · go_wp2
        go_ret
        refine ⟨ret_int ?_, hB⟩
        rw [← hr.out, chk_no]
        exact fun h => by have := HE.out.1 h; omega
      by_cases he : n - a = m - b
      · go_wp2
        go_ret
        refine ⟨ret_int ?_, hB⟩
        rw [← hr.out, chk_ok]
        exact HE.out.2 ⟨by omega, by omega, he⟩
      · go_wp2
        go_ret
        refine ⟨ret_int ?_, hB⟩
        rw [← hr.out, chk_no]
        exact fun h => he (HE.out.1 h).2.2
end Go.Proofs.Ytheagpbmpnpalaa

/- What a script keeps: the reference's Keep, walked. -/
namespace Go.Proofs.Ytheagpbmpnpalaa
open Go.RowKit

theorem drop_of_at {Z : List Int} {j : Nat} {z : Int} (h : Z[j]? = some z) : Z.drop j = z :: Z.drop (j + 1) := by
  obtain ⟨hl, rfl⟩ := List.getElem?_eq_some_iff.1 h
  exact List.drop_eq_getElem_cons hl
theorem kr_at_nil {a b n m : Int} {j : Nat} (h : (j : Int) < n - a) : (kr a b n m [])[j]? = some (b + j) := by
  rw [kr_nil, List.getElem?_map, List.getElem?_range (by omega)]
  rfl
theorem kr_at_keep {a b n m : Int} {c : Ch} {l : List Ch} {j : Nat} (h : (j : Int) < c.A - a) : (kr a b n m (c :: l))[j]? = some (b + j) := by
  rw [kr_cons, List.append_assoc, List.getElem?_append_left (by simp; omega), List.getElem?_map, List.getElem?_range (by omega)]
  rfl
theorem kr_at_out {a b n m : Int} {c : Ch} {l : List Ch} {j : Nat} (h0 : a ≤ c.A) (h : c.A - a ≤ (j : Int)) (h2 : (j : Int) < c.A - a + c.AN) : (kr a b n m (c :: l))[j]? = some (-1) := by
  rw [kr_cons, List.append_assoc, List.getElem?_append_right (by simp; omega), List.getElem?_append_left (by simp; omega), List.getElem?_replicate_of_lt (by simp; omega)]
theorem kr_past {a b n m : Int} {c : Ch} {l : List Ch} {j : Nat} (h0 : a ≤ c.A) (h1 : 0 ≤ c.AN) (h : (j : Int) = c.A - a + c.AN) : (kr a b n m (c :: l)).drop j = kr (c.A + c.AN) (c.B + c.BN) n m l := by
  rw [kr_cons, List.drop_append_of_le_length (by simp; omega), List.drop_of_length_le (by simp; omega), List.nil_append]

theorem rKeep_no (l : List Ch) (n m : Int) (v : Value) (w : World) (hl : HCh w v l) (hS : ¬ Script l n m) (hn : n ≤ 9223372036854775807) (hm : m ≤ 9223372036854775807) (hlen : l.length ≤ 1048576) :
    Calls Try.prog 19 #[v, .int .i64 n, .int .i64 m] w fun e w' => e = .returned (.tuple #[.slice none 0 0, .int .i64 50]) ∧ Below w.heap.size w w' := by
  obtain ⟨ao, ca, rfl⟩ := Holds.form hl
  go_enter Try.func19, Try.ntmps19
  go_wp2_with fail
  refine (rCheck_f l n m 50 _ w hl (by omega) hn hm (chk_no hS)).mono ?_
  rintro e w1 ⟨rfl, hB⟩
  go_wp2
  go_ret2
  exact ⟨rfl, hB⟩

set_option maxRecDepth 10000 in
set_option maxHeartbeats 4000000 in
theorem rKeep_ok (l : List Ch) (n m : Int) (v : Value) (w : World) (hl : HCh w v l) (hS : Script l n m) (hn : n ≤ 65536) (hm : m ≤ 4611686018427387904) (hlen : l.length ≤ 1048576) :
    Calls Try.prog 19 #[v, .int .i64 n, .int .i64 m] w fun e w' => ∃ v', e = .returned (.tuple #[v', .int .i64 0]) ∧ HI w' v' (keepL l n m) ∧ Below w.heap.size w w' := by
  obtain ⟨ao, ca, rfl⟩ := Holds.form hl
  have hn0 := hS.1
  have hm0 := hS.2.1
  have HS : Hid (Script l n m) := hS
  clear hS
  obtain ⟨N, rfl⟩ : ∃ N : Nat, n = (N : Int) := ⟨n.toNat, by omega⟩
  obtain ⟨Z, hZ⟩ : ∃ Z, keepL l N m = Z := ⟨_, rfl⟩
  rw [hZ]
  have HZ : Hid (kr 0 0 N m l = Z) := hZ
  clear hZ
  go_enter Try.func19, Try.ntmps19
  go_wp2_with fail
  refine (rCheck_f l N m 0 _ w hl (by omega) (by omega) (by omega) (chk_ok HS.out)).mono ?_
  rintro e w0 ⟨rfl, hB0⟩
  go_wp2
  go_loopw [8, 9, 10, 11] (fun kv bv kk iv wr => ∃ (i k : Nat) (a0 b0 b : Int) (X : List Int), i ≤ N ∧ k ≤ l.length ∧ (∃ oo oc, kv = .slice oo X.length oc) ∧ bv = .int .i64 b ∧ kk = .int .i64 k ∧ iv = .int .i64 i ∧ 0 ≤ a0 ∧ a0 ≤ i ∧ 0 ≤ b0 ∧ 0 ≤ b ∧ b ≤ 4611686018427387904 ∧ Below w.heap.size w wr ∧ wr.ownsRow w.heap.size 3 1 kv X.length (icells X) ∧ X.length ≤ i ∧ Hid (Right (decide (k = 0)) a0 b0 N m (l.drop k) ∧ X ++ (kr a0 b0 N m (l.drop k)).drop (i - a0).toNat = Z ∧ (∀ c r, l.drop k = c :: r → (i : Int) ≤ c.A + c.AN ∧ ((i : Int) ≤ c.A → b = b0 + (i - a0))) ∧ (l.drop k = [] → b = b0 + (i - a0)))) (fun _ _ _ iv _ => N - (intOf iv).toNat)
  case atStart =>
    refine ⟨0, 0, 0, 0, 0, [], Nat.zero_le _, Nat.zero_le _, ⟨_, _, rfl⟩, rfl, rfl, rfl, by omega, by omega, by omega, by omega, by omega, hB0, World.ownsRow_nil _ _ _ _, Nat.zero_le _, (?_ : _ ∧ _ ∧ _ ∧ _)⟩
    refine ⟨HS.out.2.2, by simpa using HZ.out, fun c r h => ?_, fun _ => by omega⟩
    have hR := HS.out.2.2
    rw [List.drop_zero] at h
    rw [h] at hR
    have h1 := hR.1.1
    rw [numB_iff] at h1
    exact ⟨by omega, fun _ => by omega⟩
  case round =>
    obtain ⟨i, k, a0, b0, b, X, hi, hk, ⟨oo, oc, rfl⟩, rfl, rfl, rfl, ha0, hai, hb0, hb1, hb2, hB, hO, hX, hR⟩ := hrel
    have hsz := hB.size
    by_cases hlt : i < N
    · have j1 : (i : Int) < (N : Int) := by omega
      by_cases hkl : k < l.length
      · obtain ⟨bk, off, rfl, hbk, hc⟩ := HCh.at (HCh.keep hl hB (Nat.le_refl _)) (by omega)
        obtain ⟨c0, c1, c2, c3⟩ := hc k hkl
        have hR' := hR.out
        rw [List.drop_eq_getElem_cons hkl] at hR'
        obtain ⟨c, hcd⟩ : ∃ c, l[k] = c := ⟨_, rfl⟩
        rw [hcd] at hR' c0 c1 c2 c3
        have HC : Hid (l[k] = c) := hcd
        obtain ⟨q1, q2, q3, _⟩ := hR'
        obtain ⟨q5, q6⟩ := q3 c _ rfl
        have hnum := q1.1.1
        rw [numB_iff] at hnum
        have hle := q1.2.le
        have hgap := q1.1.2.1
        have hAa := q1.1.2.2.1
        clear hcd hR
        obtain ⟨A, AN, B, BN⟩ := c
        dsimp only at c0 c1 c2 c3 q5 q6 hnum hle hgap hAa
        obtain ⟨⟨hA0, hA1⟩, ⟨hAN0, hAN1⟩, ⟨hB0', hB1'⟩, ⟨hBN0, hBN1⟩, hpos⟩ := hnum
        obtain ⟨hle1, hle2, _⟩ := hle
        have j2 : 0 ≤ (k : Int) := by omega
        have j3 : (k : Int) < (l.length : Int) := by omega
        by_cases hin : (i : Int) < A + AN
        · have hw1 : IntKind.i64.wrap (A + AN) = A + AN := wrap_small _ (by omega) (by omega)
          by_cases hge : A ≤ (i : Int)
          · have HN : Hid (Right (decide (k = 0)) a0 b0 N m (l.drop k) ∧ X ++ [-1] ++ (kr a0 b0 N m (l.drop k)).drop ((i + 1 : Nat) - a0).toNat = Z ∧ (∀ c r, l.drop k = c :: r → ((i + 1 : Nat) : Int) ≤ c.A + c.AN ∧ (((i + 1 : Nat) : Int) ≤ c.A → b = b0 + (((i + 1 : Nat) : Int) - a0))) ∧ (l.drop k = [] → b = b0 + (((i + 1 : Nat) : Int) - a0))) := (by
              rw [List.drop_eq_getElem_cons hkl, HC.out]
              refine ⟨q1, ?_, fun c r h => (by cases h; exact ⟨by dsimp only; omega, fun h => by dsimp only at h; omega⟩), fun h => by cases h⟩
              rw [← q2, drop_of_at (kr_at_out (b := b0) (n := N) (m := m) (c := ⟨A, AN, B, BN⟩) (j := ((i : Int) - a0).toNat) hAa (by dsimp only; omega) (by dsimp only; omega)), List.append_assoc]
              rw [show ((i + 1 : Nat) - a0).toNat = ((i : Int) - a0).toNat + 1 by omega]
              rfl)
            clear q1 q2 q3 q5 q6 hc
            go_wp2_with fail
            refine wp_loop_rounds 1 ?_
            rw [rounds_succ]
            go_wp2_with fail
            go_quiet (fail)
            obtain ⟨wq, hwq⟩ : ∃ wq, wr.drewN nq = wq := ⟨_, rfl⟩
            have hOq : wq.ownsRow w.heap.size 3 1 (.slice oo X.length oc) X.length (icells X) := by rw [← hwq]; exact hO
            have hBq : Below w.heap.size w wq := by rw [← hwq]; exact Below.dN hB _
            have hsq := hBq.size
            rw [hwq]
            have e0 : wq.cell? ⟨bk, off + k * 4, none⟩ = some (.int .i64 A) := by rw [← hwq]; exact c0
            clear hwq
            go_wp2_with (at_builtin; refine wpList_append_h _ (by kernel_rfl) (.tmp 67) (.tmp 68) 22 3 (.int .i64 0) 1 8 rfl Try.underlying22 infoInt rfl (by decide) (by decide) w.heap.size _ _ _ rfl (hOq.alloc _) _ 1 (icells [-1]) rfl (new_holds _ _ _ _ _ (by decide)) rfl (icells_one _) (by omega) (by simp; omega) ?_)
            intro v2 w2 hown2 hgrow2
            have hB2 : Below w.heap.size w w2 := (hBq.alloc (by omega) _).grown hgrow2 (by simp; omega) (fun _ hj => owns_ge hO hj)
            rw [← icells_append] at hown2
            obtain ⟨oo2, oc2, rfl⟩ := (holds_of hown2).form
            clear hgrow2
            go_wp2
            go_roundw
            case rel => exact ⟨i + 1, k, a0, b0, b, X ++ [-1], by omega, by omega, ⟨_, _, by rw [List.length_append]; rfl⟩, by go_num, by go_num, by go_num, by omega, by omega, by omega, by omega, by omega, hB2, by rw [List.length_append]; exact hown2, by simp; omega, HN⟩
            case measure => simp [intOf]; omega
          · have hbe : b = b0 + ((i : Int) - a0) := q6 (by omega)
            have hbm : b + 1 ≤ 4611686018427387904 := by omega
            have HN : Hid (Right (decide (k = 0)) a0 b0 N m (l.drop k) ∧ X ++ [b] ++ (kr a0 b0 N m (l.drop k)).drop ((i + 1 : Nat) - a0).toNat = Z ∧ (∀ c r, l.drop k = c :: r → ((i + 1 : Nat) : Int) ≤ c.A + c.AN ∧ (((i + 1 : Nat) : Int) ≤ c.A → b + 1 = b0 + (((i + 1 : Nat) : Int) - a0))) ∧ (l.drop k = [] → b + 1 = b0 + (((i + 1 : Nat) : Int) - a0))) := (by
              rw [List.drop_eq_getElem_cons hkl, HC.out]
              refine ⟨q1, ?_, fun c r h => (by cases h; exact ⟨by dsimp only; omega, fun h => by omega⟩), fun h => by cases h⟩
              rw [← q2, drop_of_at (kr_at_keep (b := b0) (n := N) (m := m) (c := ⟨A, AN, B, BN⟩) (j := ((i : Int) - a0).toNat) (by dsimp only; omega)), List.append_assoc]
              rw [show ((i + 1 : Nat) - a0).toNat = ((i : Int) - a0).toNat + 1 by omega, show b = b0 + ((((i : Int) - a0).toNat : Nat) : Int) by omega]
              rfl)
            clear q1 q2 q3 q5 q6 hc hbe
            have hge' : (i : Int) < A := by omega
            go_wp2_with fail
            refine wp_loop_rounds 1 ?_
            rw [rounds_succ]
            go_wp2_with fail
            go_quiet (fail)
            obtain ⟨wq, hwq⟩ : ∃ wq, wr.drewN nq = wq := ⟨_, rfl⟩
            have hOq : wq.ownsRow w.heap.size 3 1 (.slice oo X.length oc) X.length (icells X) := by rw [← hwq]; exact hO
            have hBq : Below w.heap.size w wq := by rw [← hwq]; exact Below.dN hB _
            have hsq := hBq.size
            rw [hwq]
            have e0 : wq.cell? ⟨bk, off + k * 4, none⟩ = some (.int .i64 A) := by rw [← hwq]; exact c0
            clear hwq
            go_wp2_with (at_builtin; refine wpList_append_h _ (by kernel_rfl) (.tmp 70) (.tmp 72) 22 3 (.int .i64 0) 1 8 rfl Try.underlying22 infoInt rfl (by decide) (by decide) w.heap.size _ _ _ rfl (hOq.alloc _) _ 1 (icells [b]) rfl (new_holds _ _ _ _ _ (by decide)) rfl (icells_one _) (by omega) (by simp; omega) ?_)
            intro v2 w2 hown2 hgrow2
            have hB2 : Below w.heap.size w w2 := (hBq.alloc (by omega) _).grown hgrow2 (by simp; omega) (fun _ hj => owns_ge hO hj)
            rw [← icells_append] at hown2
            obtain ⟨oo2, oc2, rfl⟩ := (holds_of hown2).form
            clear hgrow2
            go_wp2
            go_roundw
            case rel => exact ⟨i + 1, k, a0, b0, b + 1, X ++ [b], by omega, by omega, ⟨_, _, by rw [List.length_append]; rfl⟩, by go_num, by go_num, by go_num, by omega, by omega, by omega, by omega, by omega, hB2, by rw [List.length_append]; exact hown2, by simp; omega, HN⟩
            case measure => simp [intOf]; omega
        · have hie : (i : Int) = A + AN := by omega
          have h7 := q1.2
          dsimp only at h7
          have hw1 : IntKind.i64.wrap (A + AN) = A + AN := wrap_small _ (by omega) (by omega)
          have hw2 : IntKind.i64.wrap (B + BN) = B + BN := wrap_small _ (by omega) (by omega)
          have hw3 : IntKind.i64.wrap ((k : Int) + 1) = ((k + 1 : Nat) : Int) := by rw [wrap_small _ (by omega) (by omega)]; omega
          have hZ1 : X ++ kr (A + AN) (B + BN) N m (l.drop (k + 1)) = Z := by
            rw [← q2, kr_past (c := ⟨A, AN, B, BN⟩) hAa hAN0 (by dsimp only; omega)]
          by_cases hk2 : k + 1 < l.length
          · obtain ⟨d0, d1, _, _⟩ := hc (k + 1) hk2
            rw [List.drop_eq_getElem_cons hk2] at h7 hZ1
            obtain ⟨c', hcd'⟩ : ∃ c', l[k + 1] = c' := ⟨_, rfl⟩
            rw [hcd'] at h7 hZ1 d0 d1
            have HC' : Hid (l[k + 1] = c') := hcd'
            clear hcd'
            have hnum' := h7.1.1
            rw [numB_iff] at hnum'
            have hle' := h7.2.le
            have hgap' := h7.1.2.1
            have hlt' : A + AN < c'.A := by rcases h7.1.2.2.2 with h | h; cases h; exact h
            obtain ⟨A', AN', B', BN'⟩ := c'
            dsimp only at d0 d1 hnum' hle' hgap' hlt'
            obtain ⟨⟨hA0', hA1'⟩, ⟨hAN0', hAN1'⟩, ⟨hB2', hB3'⟩, ⟨hBN0', hBN1'⟩, hpos'⟩ := hnum'
            obtain ⟨hle1', hle2', _⟩ := hle'
            have hw4 : IntKind.i64.wrap (A' + AN') = A' + AN' := wrap_small _ (by omega) (by omega)
            have hbm : B + BN + 1 ≤ 4611686018427387904 := by omega
            have HN : Hid (Right (decide (k + 1 = 0)) (A + AN) (B + BN) N m (l.drop (k + 1)) ∧ X ++ [B + BN] ++ (kr (A + AN) (B + BN) N m (l.drop (k + 1))).drop ((i + 1 : Nat) - (A + AN)).toNat = Z ∧ (∀ c r, l.drop (k + 1) = c :: r → ((i + 1 : Nat) : Int) ≤ c.A + c.AN ∧ (((i + 1 : Nat) : Int) ≤ c.A → B + BN + 1 = B + BN + (((i + 1 : Nat) : Int) - (A + AN)))) ∧ (l.drop (k + 1) = [] → B + BN + 1 = B + BN + (((i + 1 : Nat) : Int) - (A + AN)))) := (by
              rw [List.drop_eq_getElem_cons hk2, HC'.out]
              refine ⟨h7, ?_, fun c r h => (by cases h; exact ⟨by dsimp only; omega, fun h => by omega⟩), fun h => by cases h⟩
              have h0 := drop_of_at (kr_at_keep (a := A + AN) (b := B + BN) (n := N) (m := m) (c := ⟨A', AN', B', BN'⟩) (l := l.drop (k + 1 + 1)) (j := 0) (by dsimp only; omega))
              rw [List.drop_zero] at h0
              rw [← hZ1, show ((i + 1 : Nat) - (A + AN)).toNat = 1 by omega, List.append_assoc, h0]
              simp)
            clear q1 q2 q3 q5 q6 hc h7 hZ1
            have j4 : (k : Int) + 1 < (l.length : Int) := by omega
            have j6 : 0 ≤ (k : Int) + 1 := by omega
            have j7 : ((k : Int) + 1).toNat = k + 1 := by omega
            have j8 : (i : Int) < A' + AN' := by omega
            have j9 : (i : Int) < A' := by omega
            have j5 : A + AN ≤ (i : Int) := by omega
            have HI : Hid ((i : Int) = A + AN) := hie
            clear hie
            go_wp2_with fail
            refine wp_loop_rounds 2 ?_
            rw [rounds_succ]
            go_wp2_with fail
            go_quiet (fail)
            obtain ⟨wp, hwp⟩ : ∃ wp, wr.drewN nq = wp := ⟨_, rfl⟩
            have hOp : wp.ownsRow w.heap.size 3 1 (.slice oo X.length oc) X.length (icells X) := by rw [← hwp]; exact hO
            have hBp : Below w.heap.size w wp := by rw [← hwp]; exact Below.dN hB _
            have hsp := hBp.size
            rw [hwp]
            have p2 : wp.cell? ⟨bk, off + k * 4 + 2, none⟩ = some (.int .i64 B) := by rw [← hwp]; exact c2
            have p3 : wp.cell? ⟨bk, off + k * 4 + 3, none⟩ = some (.int .i64 BN) := by rw [← hwp]; exact c3
            go_wp2_with fail
            go_quiet (fail)
            obtain ⟨wo, hwo⟩ : ∃ wo, wp.drewN nq = wo := ⟨_, rfl⟩
            have hOo : wo.ownsRow w.heap.size 3 1 (.slice oo X.length oc) X.length (icells X) := by rw [← hwo]; exact hOp
            have hBo : Below w.heap.size w wo := by rw [← hwo]; exact Below.dN hBp _
            have hso := hBo.size
            rw [hwo]
            have o0 : wo.cell? ⟨bk, off + (k + 1) * 4, none⟩ = some (.int .i64 A') := by rw [← hwo, ← hwp]; exact d0
            have o1 : wo.cell? ⟨bk, off + (k + 1) * 4 + 1, none⟩ = some (.int .i64 AN') := by rw [← hwo, ← hwp]; exact d1
            clear hwo hwp
            go_wp2_with fail
            rw [rounds_succ]
            go_wp2_with fail
            go_quiet (fail)
            obtain ⟨wq, hwq⟩ : ∃ wq, wo.drewN nq = wq := ⟨_, rfl⟩
            have hOq : wq.ownsRow w.heap.size 3 1 (.slice oo X.length oc) X.length (icells X) := by rw [← hwq]; exact hOo
            have hBq : Below w.heap.size w wq := by rw [← hwq]; exact Below.dN hBo _
            have hsq := hBq.size
            rw [hwq]
            have e0 : wq.cell? ⟨bk, off + (k + 1) * 4, none⟩ = some (.int .i64 A') := by rw [← hwq]; exact o0
            clear hwq
            go_wp2_with (at_builtin; refine wpList_append_h _ (by kernel_rfl) (.tmp 70) (.tmp 72) 22 3 (.int .i64 0) 1 8 rfl Try.underlying22 infoInt rfl (by decide) (by decide) w.heap.size _ _ _ rfl (hOq.alloc _) _ 1 (icells [B + BN]) rfl (new_holds _ _ _ _ _ (by decide)) rfl (icells_one _) (by omega) (by simp; omega) ?_)
            intro v2 w2 hown2 hgrow2
            have hB2 : Below w.heap.size w w2 := (hBq.alloc (by omega) _).grown hgrow2 (by simp; omega) (fun _ hj => owns_ge hOq hj)
            rw [← icells_append] at hown2
            obtain ⟨oo2, oc2, rfl⟩ := (holds_of hown2).form
            clear hgrow2
            go_wp2
            go_roundw
            case rel => exact ⟨i + 1, k + 1, A + AN, B + BN, B + BN + 1, X ++ [B + BN], by omega, by omega, ⟨_, _, by rw [List.length_append]; rfl⟩, by go_num, by go_num, by go_num, by omega, by omega, by omega, by omega, by omega, hB2, by rw [List.length_append]; exact hown2, by simp; omega, HN⟩
            case measure => simp [intOf]; omega
          · rw [List.drop_of_length_le (show l.length ≤ k + 1 by omega)] at h7 hZ1
            have hbm : B + BN + 1 ≤ 4611686018427387904 := by have := h7.2.2; omega
            have HN : Hid (Right (decide (k + 1 = 0)) (A + AN) (B + BN) N m (l.drop (k + 1)) ∧ X ++ [B + BN] ++ (kr (A + AN) (B + BN) N m (l.drop (k + 1))).drop ((i + 1 : Nat) - (A + AN)).toNat = Z ∧ (∀ c r, l.drop (k + 1) = c :: r → ((i + 1 : Nat) : Int) ≤ c.A + c.AN ∧ (((i + 1 : Nat) : Int) ≤ c.A → B + BN + 1 = B + BN + (((i + 1 : Nat) : Int) - (A + AN)))) ∧ (l.drop (k + 1) = [] → B + BN + 1 = B + BN + (((i + 1 : Nat) : Int) - (A + AN)))) := (by
              rw [List.drop_of_length_le (show l.length ≤ k + 1 by omega)]
              refine ⟨h7, ?_, fun c r h => (by cases h), fun _ => by omega⟩
              have h0 := drop_of_at (kr_at_nil (a := A + AN) (b := B + BN) (n := N) (m := m) (j := 0) (by omega))
              rw [List.drop_zero] at h0
              rw [← hZ1, show ((i + 1 : Nat) - (A + AN)).toNat = 1 by omega, List.append_assoc, h0]
              simp)
            clear q1 q2 q3 q5 q6 hc h7 hZ1
            have j4 : ¬ ((k : Int) + 1 < (l.length : Int)) := by omega
            have j6 : decide ((k : Int) + 1 < (l.length : Int)) = false := decide_eq_false j4
            have j5 : A + AN ≤ (i : Int) := by omega
            have HI : Hid ((i : Int) = A + AN) := hie
            clear hie
            go_wp2_with fail
            refine wp_loop_rounds 2 ?_
            rw [rounds_succ]
            go_wp2_with fail
            go_quiet (fail)
            obtain ⟨wp, hwp⟩ : ∃ wp, wr.drewN nq = wp := ⟨_, rfl⟩
            have hOp : wp.ownsRow w.heap.size 3 1 (.slice oo X.length oc) X.length (icells X) := by rw [← hwp]; exact hO
            have hBp : Below w.heap.size w wp := by rw [← hwp]; exact Below.dN hB _
            have hsp := hBp.size
            rw [hwp]
            have p2 : wp.cell? ⟨bk, off + k * 4 + 2, none⟩ = some (.int .i64 B) := by rw [← hwp]; exact c2
            have p3 : wp.cell? ⟨bk, off + k * 4 + 3, none⟩ = some (.int .i64 BN) := by rw [← hwp]; exact c3
            go_wp2_with fail
            go_quiet (fail)
            obtain ⟨wo, hwo⟩ : ∃ wo, wp.drewN nq = wo := ⟨_, rfl⟩
            have hOo : wo.ownsRow w.heap.size 3 1 (.slice oo X.length oc) X.length (icells X) := by rw [← hwo]; exact hOp
            have hBo : Below w.heap.size w wo := by rw [← hwo]; exact Below.dN hBp _
            have hso := hBo.size
            rw [hwo]
            clear hwo hwp
            go_wp2_with fail
            rw [rounds_succ]
            go_wp2_with fail
            go_quiet (fail)
            obtain ⟨wq, hwq⟩ : ∃ wq, wo.drewN nq = wq := ⟨_, rfl⟩
            have hOq : wq.ownsRow w.heap.size 3 1 (.slice oo X.length oc) X.length (icells X) := by rw [← hwq]; exact hOo
            have hBq : Below w.heap.size w wq := by rw [← hwq]; exact Below.dN hBo _
            have hsq := hBq.size
            rw [hwq]
            clear hwq
            go_wp2_with (at_builtin; refine wpList_append_h _ (by kernel_rfl) (.tmp 70) (.tmp 72) 22 3 (.int .i64 0) 1 8 rfl Try.underlying22 infoInt rfl (by decide) (by decide) w.heap.size _ _ _ rfl (hOq.alloc _) _ 1 (icells [B + BN]) rfl (new_holds _ _ _ _ _ (by decide)) rfl (icells_one _) (by omega) (by simp; omega) ?_)
            intro v2 w2 hown2 hgrow2
            have hB2 : Below w.heap.size w w2 := (hBq.alloc (by omega) _).grown hgrow2 (by simp; omega) (fun _ hj => owns_ge hOq hj)
            rw [← icells_append] at hown2
            obtain ⟨oo2, oc2, rfl⟩ := (holds_of hown2).form
            clear hgrow2
            go_wp2
            go_roundw
            case rel => exact ⟨i + 1, k + 1, A + AN, B + BN, B + BN + 1, X ++ [B + BN], by omega, by omega, ⟨_, _, by rw [List.length_append]; rfl⟩, by go_num, by go_num, by go_num, by omega, by omega, by omega, by omega, by omega, hB2, by rw [List.length_append]; exact hown2, by simp; omega, HN⟩
            case measure => simp [intOf]; omega
      · have hR' := hR.out
        rw [List.drop_of_length_le (by omega)] at hR'
        obtain ⟨q1, q2, _, q4⟩ := hR'
        have hbe := q4 rfl
        have hbm : b + 1 ≤ 4611686018427387904 := by have := q1.2.2; omega
        have HN : Hid (Right (decide (k = 0)) a0 b0 N m (l.drop k) ∧ X ++ [b] ++ (kr a0 b0 N m (l.drop k)).drop ((i + 1 : Nat) - a0).toNat = Z ∧ (∀ c r, l.drop k = c :: r → ((i + 1 : Nat) : Int) ≤ c.A + c.AN ∧ (((i + 1 : Nat) : Int) ≤ c.A → b + 1 = b0 + (((i + 1 : Nat) : Int) - a0))) ∧ (l.drop k = [] → b + 1 = b0 + (((i + 1 : Nat) : Int) - a0))) := (by
          rw [List.drop_of_length_le (by omega)]
          refine ⟨q1, ?_, fun c r h => (by cases h), fun _ => by omega⟩
          rw [← q2, drop_of_at (kr_at_nil (b := b0) (m := m) (j := ((i : Int) - a0).toNat) (by have := q1.1; omega)), List.append_assoc]
          rw [show ((i + 1 : Nat) - a0).toNat = ((i : Int) - a0).toNat + 1 by omega, show b = b0 + ((((i : Int) - a0).toNat : Nat) : Int) by omega]
          rfl)
        clear hR q1 q2 q4 hbe
        have j2 : (l.length : Int) ≤ (k : Int) := by omega
        go_wp2_with fail
        refine wp_loop_rounds 1 ?_
        rw [rounds_succ]
        go_wp2_with fail
        go_quiet (fail)
        obtain ⟨wq, hwq⟩ : ∃ wq, wr.drewN nq = wq := ⟨_, rfl⟩
        have hOq : wq.ownsRow w.heap.size 3 1 (.slice oo X.length oc) X.length (icells X) := by rw [← hwq]; exact hO
        have hBq : Below w.heap.size w wq := by rw [← hwq]; exact Below.dN hB _
        have hsq := hBq.size
        rw [hwq]
        clear hwq
        go_wp2_with (at_builtin; refine wpList_append_h _ (by kernel_rfl) (.tmp 70) (.tmp 72) 22 3 (.int .i64 0) 1 8 rfl Try.underlying22 infoInt rfl (by decide) (by decide) w.heap.size _ _ _ rfl (hOq.alloc _) _ 1 (icells [b]) rfl (new_holds _ _ _ _ _ (by decide)) rfl (icells_one _) (by omega) (by simp; omega) ?_)
        intro v2 w2 hown2 hgrow2
        have hB2 : Below w.heap.size w w2 := (hBq.alloc (by omega) _).grown hgrow2 (by simp; omega) (fun _ hj => owns_ge hO hj)
        rw [← icells_append] at hown2
        obtain ⟨oo2, oc2, rfl⟩ := (holds_of hown2).form
        clear hgrow2
        go_wp2
        go_roundw
        case rel => exact ⟨i + 1, k, a0, b0, b + 1, X ++ [b], by omega, by omega, ⟨_, _, by rw [List.length_append]; rfl⟩, by go_num, by go_num, by go_num, by omega, by omega, by omega, by omega, by omega, hB2, by rw [List.length_append]; exact hown2, by simp; omega, HN⟩
        case measure => simp [intOf]; omega
    · have hR' := hR.out
      have hXZ : X = Z := by
        have hlz := kr_length hR'.1
        have := hR'.2.1
        rw [List.drop_of_length_le (by omega), List.append_nil] at this
        exact this
      subst hXZ
      clear hR hR'
      have j1 : (N : Int) ≤ (i : Int) := by omega
      go_wp2
      go_ret2
      exact ⟨_, rfl, holds_of hO, hB⟩
end Go.Proofs.Ytheagpbmpnpalaa
