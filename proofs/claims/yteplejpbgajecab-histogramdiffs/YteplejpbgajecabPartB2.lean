/-
  Texts that belong together, joined: HiRr, HiRb, HiPi, PaRow, PaOp, HiDf.
-/
import Derived.Test.YteplejpbgajecabPartB1
import Derived.Test.YteplejpbgajecabPartA6
import Derived.Test.YteplejpbgajecabPartA5
import Derived.Test.YteplejpbgajecabPartA1
import Derived.Test.YteplejpbgajecabPartA4
import Derived.Test.YteplejpbgajecabPartA7
import Derived.Laws.EntriesVeiled

/- The reference's Runs, walked. -/
namespace Go.Proofs.Yteplejpbgajecab
open Go.RowKit
attribute [local simp] low_drew

set_option maxRecDepth 10000 in
set_option maxHeartbeats 8000000 in
theorem Runs_f (x y : List Int) (vx vy : Value) (w : World) (hx : HI w vx x) (hy : HI w vy y) (hxl : x.length ≤ 4096) (hyl : y.length ≤ 4096) (L : List Hr) (hL : Hid (runs x y = L)) :
    Calls Try.prog 67 #[vx, vy] w fun e w' => ∃ v', e = .returned v' ∧ HHr w' v' L ∧ Below w.heap.size w w' := by
  obtain ⟨xo, xc, rfl⟩ := Holds.form hx
  obtain ⟨yo, yc, rfl⟩ := Holds.form hy
  have hLl : L.length ≤ 16777216 := by
    rw [← hL.out]
    have h1 := runs_length x y
    have h2 : x.length * y.length ≤ 4096 * 4096 := Nat.mul_le_mul hxl hyl
    omega
  have HL0 : Hid ([] ++ restRI x y 0 = L) := (by rw [restRI_zero]; exact hL)
  clear hL
  go_enter Try.func67, Try.ntmps67
  go_wp2
  go_loopw [5, 6] (fun lv iv wr => ∃ (i : Nat) (Z : List Hr) (zo : Option Addr) (zc : Nat), i ≤ x.length ∧ lv = .slice zo Z.length zc ∧ iv = .int .i64 i ∧ wr.ownsRow w.heap.size 78 4 (.slice zo Z.length zc) Z.length (hrcells Z) ∧ Below w.heap.size w wr ∧ Hid (Z ++ restRI x y i = L)) (fun _ iv _ => x.length - (intOf iv).toNat)
  case atStart => exact ⟨0, [], none, 0, Nat.zero_le _, rfl, rfl, World.ownsRow_nil _ _ _ _, Below.refl _ _, HL0⟩
  case round =>
    clear HL0
    obtain ⟨i, Z, zo, zc, hi, rfl, rfl, hO, hB, HZ⟩ := hrel
    by_cases hil : i < x.length
    · have HZ2 : Hid (Z ++ restR x y i 0 = L) := (by rw [← restRI_step x y i hil]; exact HZ)
      have hi1 : (i : Int) < (x.length : Int) := by omega
      clear HZ
      go_wp2
      go_loopw [5, 7] (fun lv jv wr => ∃ (j : Nat) (Z : List Hr) (zo : Option Addr) (zc : Nat), j ≤ y.length ∧ lv = .slice zo Z.length zc ∧ jv = .int .i64 j ∧ wr.ownsRow w.heap.size 78 4 (.slice zo Z.length zc) Z.length (hrcells Z) ∧ Below w.heap.size w wr ∧ Hid (Z ++ restR x y i j = L)) (fun _ jv _ => y.length - (intOf jv).toNat)
      case atStart => exact ⟨0, Z, zo, zc, Nat.zero_le _, rfl, rfl, hO, hB, HZ2⟩
      case round =>
        clear HZ2 hO hB
        obtain ⟨j, Z, zo, zc, hj, rfl, rfl, hO, hB, HZ⟩ := hrel
        by_cases hjl : j < y.length
        · have HZ2 : Hid (Z ++ (rj x y i j ++ restR x y i (j + 1)) = L) := (by rw [← restR_step x y i j hjl]; exact HZ)
          clear HZ
          obtain ⟨q, hq⟩ : ∃ q, decide (¬ (x[i]? = y[j]? ∧ ¬ (0 < i ∧ 0 < j ∧ x[i - 1]? = y[j - 1]?))) = q := ⟨_, rfl⟩
          have HQ : Hid (decide (¬ (x[i]? = y[j]? ∧ ¬ (0 < i ∧ 0 < j ∧ x[i - 1]? = y[j - 1]?))) = q) := hq
          clear hq
          have i1 : 0 ≤ (i : Int) := by omega
          have j1 : 0 ≤ (j : Int) := by omega
          have j2 : (j : Int) < (y.length : Int) := by omega
          go_wp2_with fail
          go_cut [50] from 15 to 109 (fun z wz => z = .bool q ∧ ∃ m, wz = wr.drewN m)
          case first =>
            obtain ⟨xb, xf, rfl, _, hcx⟩ := HI.at (HI.keep hx hB (Nat.le_refl _)) (by omega)
            obtain ⟨yb, yf, rfl, _, hcy⟩ := HI.at (HI.keep hy hB (Nat.le_refl _)) (by omega)
            have x0 := hcx i (by omega)
            have y0 := hcy j (by omega)
            obtain ⟨zx, hzx⟩ : ∃ z, x[i] = z := ⟨_, rfl⟩
            obtain ⟨zy, hzy⟩ : ∃ z, y[j] = z := ⟨_, rfl⟩
            rw [hzx] at x0
            rw [hzy] at y0
            rw [List.getElem?_eq_getElem hil, List.getElem?_eq_getElem hjl, hzx, hzy] at HQ
            by_cases hz : zx = zy
            · have e1 : (zx != zy) = false := by simp [hz]
              by_cases hi0 : 0 < i
              · have e2 : decide ((0 : Int) < (i : Int)) = true := decide_eq_true (by omega)
                by_cases hj0 : 0 < j
                · have e3 : decide ((0 : Int) < (j : Int)) = true := decide_eq_true (by omega)
                  obtain ⟨px, rfl⟩ : ∃ p, i = p + 1 := ⟨i - 1, by omega⟩
                  obtain ⟨py, rfl⟩ : ∃ p, j = p + 1 := ⟨j - 1, by omega⟩
                  have x1 := hcx px (by omega)
                  have y1 := hcy py (by omega)
                  obtain ⟨tx, htx⟩ : ∃ z, x[px] = z := ⟨_, rfl⟩
                  obtain ⟨ty, hty⟩ : ∃ z, y[py] = z := ⟨_, rfl⟩
                  rw [htx] at x1
                  rw [hty] at y1
                  have e4 : (tx == ty) = q := by
                    rw [← HQ.out, Nat.add_sub_cancel, Nat.add_sub_cancel, List.getElem?_eq_getElem (by omega), List.getElem?_eq_getElem (by omega), htx, hty]
                    by_cases ht : tx = ty <;> simp [hz, ht]
                  have n1 : IntKind.i64.wrap ((px : Int) + 1 - 1) = (px : Int) := by rw [IntKind.wrap_i64]; omega
                  have n2 : IntKind.i64.wrap ((py : Int) + 1 - 1) = (py : Int) := by rw [IntKind.wrap_i64]; omega
                  have n3 : IntKind.i64.wrap (px : Int) = (px : Int) := by rw [IntKind.wrap_i64]; omega
                  have n4 : IntKind.i64.wrap (py : Int) = (py : Int) := by rw [IntKind.wrap_i64]; omega
                  have n5 : (px : Int) + 1 - 1 = (px : Int) := by omega
                  have n6 : (py : Int) + 1 - 1 = (py : Int) := by omega
                  have g1 : (0 : Int) < (px : Int) + 1 := by omega
                  have g2 : (0 : Int) < (py : Int) + 1 := by omega
                  have g3 : 0 ≤ (px : Int) := by omega
                  have g4 : (px : Int) < (x.length : Int) := by omega
                  have g5 : 0 ≤ (py : Int) := by omega
                  have g6 : (py : Int) < (y.length : Int) := by omega
                  have g7 : 0 ≤ (px : Int) + 1 := by omega
                  have g8 : (px : Int) + 1 < (x.length : Int) := by omega
                  have g9 : 0 ≤ (py : Int) + 1 := by omega
                  have g10 : (py : Int) + 1 < (y.length : Int) := by omega
                  clear hcx hcy hzx hzy htx hty HQ HZ2 hz
                  go_big_quiet (fail)
                  go_wp2
                  go_meet
                  case rel => exact ⟨rfl, _, rfl⟩
                · have e3 : decide ((0 : Int) < (j : Int)) = false := decide_eq_false (by omega)
                  have e3' : decide (0 < j) = false := decide_eq_false hj0
                  obtain rfl : q = false := by rw [← HQ.out]; simp [hz, hj0]
                  clear hcx hcy hzx hzy HQ HZ2 hz
                  go_big_quiet (fail)
                  go_wp2
                  go_meet
                  case rel => exact ⟨rfl, _, rfl⟩
              · have e2 : decide ((0 : Int) < (i : Int)) = false := decide_eq_false (by omega)
                have e2' : decide (0 < i) = false := decide_eq_false hi0
                obtain rfl : q = false := by rw [← HQ.out]; simp [hz, hi0]
                clear hcx hcy hzx hzy HQ HZ2 hz
                go_big_quiet (fail)
                go_wp2
                go_meet
                case rel => exact ⟨rfl, _, rfl⟩
            · have e1 : (zx != zy) = true := by simp [hz]
              obtain rfl : q = true := by rw [← HQ.out]; simp [hz]
              clear hcx hcy hzx hzy HQ HZ2 hz
              go_big_quiet (fail)
              go_wp2
              go_meet
              case rel => exact ⟨rfl, _, rfl⟩
          case rest =>
            obtain ⟨rfl, mq, rfl⟩ := hcut
            have hBq := Below.dN hB mq
            have hOq : (wr.drewN mq).ownsRow w.heap.size 78 4 (.slice zo Z.length zc) Z.length (hrcells Z) := owns_keep hO (Below.dN (Below.refl _ wr) mq)
            clear hB hO
            generalize wr.drewN mq = Wq at hBq hOq ⊢
            cases q with
            | true =>
              have hnr := of_decide_eq_true HQ.out
              have HZ3 : Hid (Z ++ restR x y i (j + 1) = L) := (by
                show _ = _
                rw [← HZ2.out, rj, if_neg hnr, List.nil_append])
              clear HZ2 HQ hnr
              go_wp2
              go_roundw
              case rel => exact ⟨j + 1, Z, zo, zc, by omega, rfl, by go_num, hOq, hBq, HZ3⟩
              case measure => simp [intOf]; omega
            | false =>
              have hnr := of_decide_eq_false HQ.out
              obtain ⟨T, hT⟩ : ∃ T, tl x y i j = T := ⟨_, rfl⟩
              have HZ3 : Hid (Z ++ (⟨i, j, T, rar x i T⟩ :: restR x y i (j + 1)) = L) := (by
                show _ = _
                have := HZ2.out
                rw [rj, if_pos (Decidable.not_not.1 hnr), hT] at this
                exact this)
              have HT : Hid (0 + tl x y (i + 0) (j + 0) = T) := (by show _ = _; simpa using hT)
              have hTl := tl_le x y i j
              rw [hT] at hTl
              clear HZ2 HQ hnr hT
              have hG0 := Gbx.new Wq ⟨i, j, 0, x.length⟩
              have hs0 := hBq.size
              have hBa : Below w.heap.size w (Wq.alloc (.cells #[.int .i64 (i : Int), .int .i64 (j : Int), .int .i64 ((0 : Nat) : Int), .int .i64 (x.length : Int)] 78)) := hBq.alloc hs0 _
              have hOa := hOq.alloc (.cells #[.int .i64 (i : Int), .int .i64 (j : Int), .int .i64 ((0 : Nat) : Int), .int .i64 (x.length : Int)] 78)
              obtain ⟨Br, hBr⟩ : ∃ Br, Wq.heap.size = Br := ⟨_, rfl⟩
              have hob : Hid (∀ ad : Addr, zo = some ad → ad.block < Br) := (by
                intro ad e
                rcases hOq.2 with ⟨h, _⟩ | ⟨g', cap', cur, h, _, hcur, _⟩
                · injection h with h1
                  rw [h1] at e
                  cases e
                · injection h with h1
                  rw [h1] at e
                  cases e
                  rw [← hBr]
                  exact (Array.getElem?_eq_some_iff.1 hcur).1)
              rw [hBr] at hG0
              have hwB : w.heap.size ≤ Br := by omega
              clear hOq hBq
              go_wp2
              clear hBr hs0
              go_loopw [] (fun wz => ∃ n : Nat, n ≤ T ∧ wz.ownsRow w.heap.size 78 4 (.slice zo Z.length zc) Z.length (hrcells Z) ∧ Below w.heap.size w wz ∧ Gbx wz Br ⟨i, j, n, rar x i n⟩ ∧ Hid (n + tl x y (i + n) (j + n) = T)) (fun wz => T - (intOf ((wz.cell? ⟨Br, 2, none⟩).getD undef)).toNat)
              case atStart => exact ⟨0, Nat.zero_le _, hOa, hBa, hG0, HT⟩
              case round =>
                clear hOa hBa hG0 HT
                obtain ⟨n, hn, hO, hB, hG, HT⟩ := hrel
                obtain ⟨c0, c1, c2, c3⟩ := hG.cells
                obtain ⟨q, hq⟩ : ∃ q, decide (i + n < x.length ∧ j + n < y.length ∧ x[i + n]? = y[j + n]?) = q := ⟨_, rfl⟩
                have HQ : Hid (decide (i + n < x.length ∧ j + n < y.length ∧ x[i + n]? = y[j + n]?) = q) := hq
                clear hq
                obtain ⟨ii, hii⟩ : ∃ ii, i + n = ii := ⟨_, rfl⟩
                obtain ⟨jj, hjj⟩ : ∃ jj, j + n = jj := ⟨_, rfl⟩
                rw [hii, hjj] at HQ HT
                have n1 : (i : Int) + (n : Int) = (ii : Int) := by omega
                have n2 : (j : Int) + (n : Int) = (jj : Int) := by omega
                have n3 : IntKind.i64.wrap (ii : Int) = (ii : Int) := by rw [IntKind.wrap_i64]; omega
                have n4 : IntKind.i64.wrap (jj : Int) = (jj : Int) := by rw [IntKind.wrap_i64]; omega
                have m1 : 0 ≤ (ii : Int) := by omega
                have m2 : 0 ≤ (jj : Int) := by omega
                go_wp2_with fail
                go_cut [88] from 56 to 105 (fun z wz => z = .bool q ∧ ∃ m, wz = wr.drewN m)
                case first =>
                  by_cases h3 : ii < x.length
                  · have e7 : decide ((ii : Int) < (x.length : Int)) = true := decide_eq_true (by omega)
                    by_cases h4 : jj < y.length
                    · have e8 : decide ((jj : Int) < (y.length : Int)) = true := decide_eq_true (by omega)
                      obtain ⟨xb, xf, rfl, _, hcx⟩ := HI.at (HI.keep hx hB (Nat.le_refl _)) (by omega)
                      obtain ⟨yb, yf, rfl, _, hcy⟩ := HI.at (HI.keep hy hB (Nat.le_refl _)) (by omega)
                      have x0 := hcx ii (by omega)
                      have y0 := hcy jj (by omega)
                      obtain ⟨zx, hzx⟩ : ∃ z, x[ii] = z := ⟨_, rfl⟩
                      obtain ⟨zy, hzy⟩ : ∃ z, y[jj] = z := ⟨_, rfl⟩
                      rw [hzx] at x0
                      rw [hzy] at y0
                      have i2 : (ii : Int) < (x.length : Int) := by omega
                      have i3 : (jj : Int) < (y.length : Int) := by omega
                      have e9 : (zx == zy) = q := by
                        rw [← HQ.out, List.getElem?_eq_getElem h3, List.getElem?_eq_getElem h4, hzx, hzy]
                        by_cases q : zx = zy <;> simp [h3, h4, q]
                      clear hcx hcy hzx hzy HQ HZ3 HT
                      go_big_quiet (fail)
                      go_wp2
                      go_meet
                      case rel => exact ⟨rfl, _, rfl⟩
                    · have e8 : decide ((jj : Int) < (y.length : Int)) = false := decide_eq_false (by omega)
                      obtain rfl : q = false := by rw [← HQ.out]; simp [h4]
                      clear HQ HZ3 HT
                      go_big_quiet (fail)
                      go_wp2
                      go_meet
                      case rel => exact ⟨rfl, _, rfl⟩
                  · have e7 : decide ((ii : Int) < (x.length : Int)) = false := decide_eq_false (by omega)
                    obtain rfl : q = false := by rw [← HQ.out]; simp [h3]
                    clear HQ HZ3 HT
                    go_big_quiet (fail)
                    go_wp2
                    go_meet
                    case rel => exact ⟨rfl, _, rfl⟩
                case rest =>
                  obtain ⟨rfl, mq, rfl⟩ := hcut
                  have hBq := Below.dN hB mq
                  have hOq : (wr.drewN mq).ownsRow w.heap.size 78 4 (.slice zo Z.length zc) Z.length (hrcells Z) := owns_keep hO (Below.dN (Below.refl _ wr) mq)
                  have hGq : Gbx (wr.drewN mq) Br ⟨i, j, n, rar x i n⟩ := hG
                  have cw := c2
                  clear hB hO hG c0 c1 c2 c3
                  generalize wr.drewN mq = Wq at hBq hOq hGq ⊢
                  obtain ⟨c0, c1, c2, c3⟩ := hGq.cells
                  have fz := hGq.frozen
                  cases q with
                  | true =>
                    obtain ⟨h3, h4, h5⟩ := of_decide_eq_true HQ.out
                    obtain ⟨xb, xf, rfl, _, hcx⟩ := HI.at (HI.keep hx hBq (Nat.le_refl _)) (by omega)
                    have x0 := hcx ii (by omega)
                    obtain ⟨zx, hzx⟩ : ∃ z, x[ii] = z := ⟨_, rfl⟩
                    rw [hzx] at x0
                    obtain ⟨ct, hct⟩ : ∃ ct, x.count zx = ct := ⟨_, rfl⟩
                    have HCT : Hid (x.count zx = ct) := hct
                    have hcc : cnt x ii = ct := by rw [cnt_at (List.getElem?_eq_getElem h3), hzx, hct]
                    have hctl : ct ≤ x.length := by rw [← hct]; exact List.count_le_length
                    obtain ⟨ra, hra⟩ : ∃ ra, rar x i n = ra := ⟨_, rfl⟩
                    have hrn : rar x i (n + 1) = min ra ct := by rw [rar, hra, hii, hcc]
                    have hral : ra ≤ x.length := by
                      rw [← hra]
                      have : ∀ n, rar x i n ≤ x.length := by
                        intro n
                        induction n with
                        | zero => exact Nat.le_refl _
                        | succ n ih => rw [rar]; omega
                      exact this n
                    rw [hra] at c3 hGq
                    obtain ⟨mi, hmi⟩ : ∃ mi, min ra ct = mi := ⟨_, rfl⟩
                    have hmin : (if ct < ra then (ct : Int) else (ra : Int)) = (mi : Int) := by rw [← hmi]; split <;> omega
                    have HT2 : Hid (n + 1 + tl x y (i + (n + 1)) (j + (n + 1)) = T) := (by
                      show _ = _
                      have := HT.out
                      rw [tl_step x y ii jj, if_pos ⟨h3, h4, h5⟩] at this
                      rw [show i + (n + 1) = ii + 1 by omega, show j + (n + 1) = jj + 1 by omega]
                      omega)
                    have i2 : (ii : Int) < (x.length : Int) := by omega
                    have hx2 := HI.keep hx hBq (Nat.le_refl _)
                    clear hcx hzx hct hcc HQ HT hra
                    have hn1 : n + 1 ≤ T := by have := HT2.out; omega
                    have hb1 : Gbx (Wq.setCell ⟨Br, 3, none⟩ (.int .i64 (mi : Int))) Br ⟨i, j, n, mi⟩ := heap_setCell_same Wq Br 3 _ _ (.int .i64 (mi : Int)) hGq
                    have hb2 : Gbx ((Wq.setCell ⟨Br, 3, none⟩ (.int .i64 (mi : Int))).drew.setCell ⟨Br, 2, none⟩ (.int .i64 ((n + 1 : Nat) : Int))) Br ⟨i, j, n + 1, mi⟩ := heap_setCell_same _ Br 2 _ _ (.int .i64 ((n + 1 : Nat) : Int)) (show (Wq.setCell ⟨Br, 3, none⟩ (.int .i64 (mi : Int))).drew.heap[Br]? = _ from hb1)
                    have d2 : (Wq.setCell ⟨Br, 3, none⟩ (.int .i64 (mi : Int))).drew.cell? ⟨Br, 2, none⟩ = some (.int .i64 (n : Int)) := hb1.cells.2.2.1
                    have f2 : (Wq.setCell ⟨Br, 3, none⟩ (.int .i64 (mi : Int))).drew.frozen? ⟨Br, 2, none⟩ = false := hb1.frozen 2
                    have f3 := fz 3
                    have hgr : Wq.grownBy ((Wq.setCell ⟨Br, 3, none⟩ (.int .i64 (mi : Int))).drew.setCell ⟨Br, 2, none⟩ (.int .i64 ((n + 1 : Nat) : Int))) (some Br) := (grown_drewN (grown_set Wq Br 3 _) 1).trans (grown_set _ Br 2 _)
                    have hB2 := hBq.grown hgr hBq.size (fun k hk => by cases hk; exact hwB)
                    have hO2 : ((Wq.setCell ⟨Br, 3, none⟩ (.int .i64 (mi : Int))).drew.setCell ⟨Br, 2, none⟩ (.int .i64 ((n + 1 : Nat) : Int))).ownsRow w.heap.size 78 4 (.slice zo Z.length zc) Z.length (hrcells Z) := hOq.kept hgr (by
                      cases hzo : zo with
                      | none => exact .inl rfl
                      | some ad =>
                        have h9 := hob.out ad hzo
                        obtain ⟨ab1, ao1, as1⟩ := ad
                        right
                        intro e
                        simp only [Value.ownBlock] at e
                        injection e with e
                        simp only at h9
                        omega)
                    have hG2 : Gbx ((Wq.setCell ⟨Br, 3, none⟩ (.int .i64 (mi : Int))).drew.setCell ⟨Br, 2, none⟩ (.int .i64 ((n + 1 : Nat) : Int))) Br ⟨i, j, n + 1, rar x i (n + 1)⟩ := by rw [hrn, hmi]; exact hb2
                    have cm := hb2.cells.2.2.1
                    clear hb1 hb2 hgr hrn hmi hGq hOq fz
                    go_wp2_with fail
                    go_region_with (go_at_call 79; refine (times8_f x zx ct _ _ (by exact HI.keep hx2 (Below.dN (Below.refl _ Wq) 1) (Nat.le_refl _)) (by omega) HCT).mono ?_; rintro e wt ⟨rfl, rfl⟩)
                    all_goals clear c0 c1 c2 c3 x0 hx2 hmin
                    all_goals go_wp2
                    all_goals go_roundw
                    all_goals first | exact ⟨n + 1, hn1, hO2, hB2, hG2, HT2⟩ | (refine Nat.lt_of_le_of_lt (Nat.le_of_eq (congrArg (fun o => T - (intOf (Option.getD o undef)).toNat) cm)) ?_; rw [cw]; simp [intOf]; omega)
                  | false =>
                    have h3 := of_decide_eq_false HQ.out
                    obtain rfl : n = T := by
                      have := HT.out
                      rw [tl_step x y ii jj, if_neg h3] at this
                      omega
                    obtain ⟨ra, hra⟩ : ∃ ra, rar x i n = ra := ⟨_, rfl⟩
                    rw [hra] at c3 hGq HZ3
                    have hZl : Z.length < L.length := by rw [← HZ3.out]; simp
                    have hs9 := hBq.size
                    clear HQ HT h3 hGq fz hra cw n1 n2 n3 n4 m1 m2
                    go_wp2_with (at_builtin; refine wpList_append_h _ (by kernel_rfl) (.tmp 106) (.tmp 108) 107 78 (.agg #[.int .i64 0, .int .i64 0, .int .i64 0, .int .i64 0]) 4 32 rfl Try.underlying107 infoHr rfl (by decide) (by decide) w.heap.size (.slice zo Z.length zc) Z.length (hrcells Z) (by kernel_rfl) (hOq.alloc _) (.slice (some ⟨Wq.heap.size, 0, none⟩) 1 1) 1 (hrcells [⟨i, j, n, ra⟩]) (by kernel_rfl) (new_holds Wq _ _ 1 1 (by decide)) rfl (hrcells_one _) (by omega) (by simp; omega) ?_)
                    intro v3 w3 hown3 hgrow3
                    have hB3 : Below w.heap.size w w3 := (Below.alloc hBq hs9 _).grown hgrow3 (by simp; omega) (fun _ hj => owns_ge hOq hj)
                    rw [← hrcells_append] at hown3
                    obtain ⟨oo3, oc3, rfl⟩ := (holds_of hown3).form
                    have HZ4 : Hid ((Z ++ [⟨i, j, n, ra⟩]) ++ restR x y i (j + 1) = L) := (by show _ = _; rw [← HZ3.out]; simp)
                    clear hgrow3 HZ3 c0 c1 c2 c3 hOq hBq
                    go_wp2
                    go_roundw
                    case rel => exact ⟨j + 1, Z ++ [⟨i, j, n, ra⟩], oo3, oc3, by omega, by simp, by go_num, by simpa using hown3, hB3, HZ4⟩
                    case measure => simp [intOf]; omega
        · have HZ2 : Hid (Z ++ restRI x y (i + 1) = L) := (by rw [← restR_end x y i j (by omega)]; exact HZ)
          have hj' : ¬ (j : Int) < (y.length : Int) := by omega
          clear HZ
          go_wp2
          go_roundw
          case rel => exact ⟨i + 1, Z, zo, zc, by omega, rfl, by go_num, hO, hB, HZ2⟩
          case measure => simp [intOf]; omega
    · have e : Z = L := by
        rw [← HZ.out, restRI_end x y i (by omega), List.append_nil]
      subst e
      have hi' : ¬ (i : Int) < (x.length : Int) := by omega
      go_wp2
      go_ret
      exact ⟨_, rfl, holds_of hO, hB⟩
end Go.Proofs.Yteplejpbgajecab

/- The reference's Best, walked. -/
namespace Go.Proofs.Yteplejpbgajecab
open Go.RowKit

/-- the run to hold on to, out of all -/
def pickO : List Hr → Option Hr
  | [] => none
  | b :: l => some (pickL btR b l)
theorem best_pickO (x y : List Int) : best x y = pickO (runs x y) := by
  unfold best
  cases runs x y <;> rfl
/-- what Best answers, as a value -/
def bestV (o : Option Hr) : Value := .tuple #[.agg #[.int .i64 ((o.getD ⟨0, 0, 0, 0⟩).X : Int), .int .i64 ((o.getD ⟨0, 0, 0, 0⟩).Y : Int), .int .i64 ((o.getD ⟨0, 0, 0, 0⟩).N : Int), .int .i64 ((o.getD ⟨0, 0, 0, 0⟩).R : Int)], .bool o.isSome]

set_option maxRecDepth 10000 in
set_option maxHeartbeats 4000000 in
theorem rBest_f (x y : List Int) (vx vy : Value) (w : World) (hx : HI w vx x) (hy : HI w vy y) (hxl : x.length ≤ 4096) (hyl : y.length ≤ 4096) (o : Option Hr) (ho : Hid (best x y = o)) :
    Calls Try.prog 48 #[vx, vy] w fun e w' => e = .returned (bestV o) ∧ Below w.heap.size w w' := by
  obtain ⟨xo, xc, rfl⟩ := Holds.form hx
  obtain ⟨yo, yc, rfl⟩ := Holds.form hy
  obtain ⟨L, hL⟩ : ∃ L, runs x y = L := ⟨_, rfl⟩
  have HL : Hid (runs x y = L) := hL
  have hLl : L.length ≤ 16777216 := by
    rw [← hL]
    have h1 := runs_length x y
    have h2 : x.length * y.length ≤ 4096 * 4096 := Nat.mul_le_mul hxl hyl
    omega
  have HO : Hid (pickO L = o) := (by
    show _ = _
    rw [← ho.out, best_pickO, hL])
  have hB0 : Below w.heap.size w (w.alloc (.cells #[.int .i64 0, .int .i64 0, .int .i64 0, .int .i64 0] 78)) := (Below.refl _ w).alloc (Nat.le_refl _) _
  have hR0 : Gbx (w.alloc (.cells #[.int .i64 0, .int .i64 0, .int .i64 0, .int .i64 0] 78)) w.heap.size ⟨0, 0, 0, 0⟩ := Gbx.new w ⟨0, 0, 0, 0⟩
  clear hL ho
  go_enter Try.func48, Try.ntmps48
  go_wp2_with fail
  refine (Runs_f x y _ _ _ (HI.keep hx hB0 (Nat.le_refl _)) (HI.keep hy hB0 (Nat.le_refl _)) hxl hyl L HL).mono ?_
  rintro e w1 ⟨v1, rfl, hv1, hB1⟩
  obtain ⟨lo, lc, rfl⟩ := Holds.form hv1
  have hB01 := hB0.trans (hB1.mono (by simp))
  have hR1 := hR0.low hB1
  clear hB1 hB0 hR0 HL
  obtain ⟨n, hn⟩ : ∃ n, L.length = n := ⟨_, rfl⟩
  have HN : Hid (L.length = n) := hn
  rw [hn] at hLl ⊢
  have hv2 : HHr w1 (.slice lo n lc) L := by rw [hn] at hv1; exact hv1
  clear hv1 hn
  obtain ⟨c0, c1, c2, c3⟩ := hR1.cells
  have f0 := hR1.frozen
  have hr1 := hR1.lt
  cases hLL : L with
  | nil =>
    obtain rfl : n = 0 := by rw [← HN.out, hLL]; rfl
    obtain rfl : o = none := by rw [← HO.out, hLL]; rfl
    have s1 := heap_setCell_same w1 w.heap.size 0 _ _ (.int .i64 0) hR1
    have s2 := heap_setCell_same _ w.heap.size 1 _ _ (.int .i64 0) s1
    have s3 := heap_setCell_same _ w.heap.size 2 _ _ (.int .i64 0) s2
    have s4 := heap_setCell_same _ w.heap.size 3 _ _ (.int .i64 0) s3
    have hBf : Below w.heap.size w ((((w1.setCell ⟨w.heap.size, 0, none⟩ (.int .i64 0)).setCell ⟨w.heap.size, 1, none⟩ (.int .i64 0)).setCell ⟨w.heap.size, 2, none⟩ (.int .i64 0)).setCell ⟨w.heap.size, 3, none⟩ (.int .i64 0)) := (((hB01.setCell (p := ⟨w.heap.size, 0, none⟩) (Nat.le_refl _) _).setCell (p := ⟨w.heap.size, 1, none⟩) (Nat.le_refl _) _).setCell (p := ⟨w.heap.size, 2, none⟩) (Nat.le_refl _) _).setCell (p := ⟨w.heap.size, 3, none⟩) (Nat.le_refl _) _
    clear hv2 HN HO
    go_wp2
    exact bodyPost_ret (results_cell_tmp rfl _ _ w.heap.size 78 #[.int .i64 0, .int .i64 0, .int .i64 0, .int .i64 0] (0, 0) _ rfl s4 Try.underlying78 rfl (by kernel_rfl)) rfl ⟨rfl, hBf⟩
  | cons b0 l0 =>
    have hn0 : 0 < n := by rw [← HN.out, hLL]; simp
    have e0 : ((n : Int) == 0) = false := beq_eq_false_iff_ne.2 (by omega)
    obtain ⟨b, hb⟩ : ∃ b, pickL btR b0 l0 = b := ⟨_, rfl⟩
    obtain rfl : o = some b := by rw [← HO.out, hLL, ← hb]; rfl
    have HP : Hid (pickL btR b0 (L.drop 1) = b) := (by rw [hLL]; exact hb)
    obtain ⟨lb, lf, rfl, _, hcl⟩ := HHr.at hv2 (by rw [hLL]; simp)
    obtain ⟨a0, a1, a2, a3⟩ := hcl 0 (by rw [hLL]; simp)
    have e00 : L[0]'(by rw [hLL]; simp) = b0 := by simp [hLL]
    rw [e00] at a0 a1 a2 a3
    rw [Nat.zero_mul, Nat.add_zero] at a0 a1 a2 a3
    have i0 : (0 : Int) < (n : Int) := by omega
    have hGb := Gbx.new w1 b0
    have hLa : Below w1.heap.size w1 (w1.alloc (.cells #[.int .i64 (b0.X : Int), .int .i64 (b0.Y : Int), .int .i64 (b0.N : Int), .int .i64 (b0.R : Int)] 78)) := (Below.refl _ w1).alloc (Nat.le_refl _) _
    clear hcl HO hb hLL e00 c0 c1 c2 c3 f0
    go_wp2
    clear a0 a1 a2 a3
    go_loopw [8] (fun iv wr => ∃ (k : Nat) (c : Hr), 1 ≤ k ∧ k ≤ n ∧ iv = .int .i64 k ∧ Low w1 wr ∧ Gbx wr w1.heap.size c ∧ Hid (pickL btR c (L.drop k) = b)) (fun iv _ => n - (intOf iv).toNat)
    case atStart => exact ⟨1, b0, Nat.le_refl _, hn0, rfl, hLa, hGb, HP⟩
    case round =>
      clear hGb hLa HP
      obtain ⟨k, c, hk1, hk, rfl, hL, hC, HP⟩ := hrel
      have hsr := Below.size hL
      by_cases hkl : k < n
      · have hkL : k < L.length := by rw [HN.out]; exact hkl
        obtain ⟨_, _, hle, _, hcl⟩ := HHr.at (HHr.keep hv2 hL (Nat.le_refl _)) (by omega)
        cases hle
        obtain ⟨a0, a1, a2, a3⟩ := hcl k hkL
        obtain ⟨r, hr⟩ : ∃ r, L[k] = r := ⟨_, rfl⟩
        rw [hr] at a0 a1 a2 a3
        obtain ⟨q, hq⟩ : ∃ q, btR r c = q := ⟨_, rfl⟩
        have HP2 : Hid (pickL btR (if q then r else c) (L.drop (k + 1)) = b) := (by
          show _ = _
          have := HP.out
          rw [List.drop_eq_getElem_cons hkL, hr] at this
          rw [← this, ← hq]
          rfl)
        have hqd : (decide (r.R < c.R) || (decide (r.R = c.R) && decide (c.N < r.N))) = q := hq
        clear HP hcl hr hq
        obtain ⟨d0, d1, d2, d3⟩ := hC.cells
        have fz := hC.frozen
        have k0 : 0 ≤ (k : Int) := by omega
        have k2 : (k : Int) < (n : Int) := by omega
        go_wp2_with fail
        go_cut [52] from 19 to 56 (fun z wz => z = .bool q ∧ ∃ m, wz = wr.drewN m)
        case first =>
          by_cases h1 : r.R < c.R
          · have e1 : decide ((r.R : Int) < (c.R : Int)) = true := decide_eq_true (by omega)
            have e1' : (r.R : Int) < (c.R : Int) := by omega
            obtain rfl : q = true := by rw [← hqd]; simp [h1]
            clear hqd HP2
            go_big_quiet (fail)
            go_wp2
            go_meet
            case rel => exact ⟨rfl, _, rfl⟩
          · have e1 : decide ((r.R : Int) < (c.R : Int)) = false := decide_eq_false (by omega)
            have e1' : decide (r.R < c.R) = false := decide_eq_false h1
            by_cases h2 : r.R = c.R
            · have e2 : ((r.R : Int) == (c.R : Int)) = true := beq_iff_eq.2 (by omega)
              have e3 : decide ((c.N : Int) < (r.N : Int)) = q := by rw [← hqd]; by_cases h3 : c.N < r.N <;> simp [h2, h3]
              have e3' : decide (c.N < r.N) = q := by rw [← hqd]; by_cases h3 : c.N < r.N <;> simp [h2, h3]
              clear hqd HP2 h1
              rw [h2] at a3 e1 e1' e2
              clear h2
              go_big_quiet (fail)
              go_wp2
              go_meet
              case rel => exact ⟨rfl, _, rfl⟩
            · have e2 : ((r.R : Int) == (c.R : Int)) = false := beq_eq_false_iff_ne.2 (by omega)
              obtain rfl : q = false := by rw [← hqd]; simp [h1, h2]
              clear hqd HP2 h2 h1
              go_big_quiet (fail)
              go_wp2
              go_meet
              case rel => exact ⟨rfl, _, rfl⟩
        case rest =>
          obtain ⟨rfl, mq, rfl⟩ := hcut
          have hLq : Low w1 (wr.drewN mq) := Below.dN hL mq
          have hCq : Gbx (wr.drewN mq) w1.heap.size c := hC
          have b0 : (wr.drewN mq).cell? ⟨lb, lf + k * 4, none⟩ = some (.int .i64 (r.X : Int)) := a0
          have b1 : (wr.drewN mq).cell? ⟨lb, lf + k * 4 + 1, none⟩ = some (.int .i64 (r.Y : Int)) := a1
          have b2 : (wr.drewN mq).cell? ⟨lb, lf + k * 4 + 2, none⟩ = some (.int .i64 (r.N : Int)) := a2
          have b3 : (wr.drewN mq).cell? ⟨lb, lf + k * 4 + 3, none⟩ = some (.int .i64 (r.R : Int)) := a3
          clear hL hC a0 a1 a2 a3 d0 d1 d2 d3 fz hsr
          generalize wr.drewN mq = Wq at hLq hCq b0 b1 b2 b3 ⊢
          obtain ⟨d0, d1, d2, d3⟩ := hCq.cells
          have fz := hCq.frozen
          cases q with
          | true =>
            have s1 := heap_setCell_same Wq w1.heap.size 0 _ _ (.int .i64 (r.X : Int)) hCq
            have s2 := heap_setCell_same _ w1.heap.size 1 _ _ (.int .i64 (r.Y : Int)) s1
            have s3 := heap_setCell_same _ w1.heap.size 2 _ _ (.int .i64 (r.N : Int)) s2
            have s4 : Gbx ((((Wq.setCell ⟨w1.heap.size, 0, none⟩ (.int .i64 (r.X : Int))).setCell ⟨w1.heap.size, 1, none⟩ (.int .i64 (r.Y : Int))).setCell ⟨w1.heap.size, 2, none⟩ (.int .i64 (r.N : Int))).setCell ⟨w1.heap.size, 3, none⟩ (.int .i64 (r.R : Int))) w1.heap.size r := heap_setCell_same _ w1.heap.size 3 _ _ (.int .i64 (r.R : Int)) s3
            have hL5 : Low w1 ((((Wq.setCell ⟨w1.heap.size, 0, none⟩ (.int .i64 (r.X : Int))).setCell ⟨w1.heap.size, 1, none⟩ (.int .i64 (r.Y : Int))).setCell ⟨w1.heap.size, 2, none⟩ (.int .i64 (r.N : Int))).setCell ⟨w1.heap.size, 3, none⟩ (.int .i64 (r.R : Int))) := (((Below.setCell (p := ⟨w1.heap.size, 0, none⟩) hLq (Nat.le_refl _) _).setCell (p := ⟨w1.heap.size, 1, none⟩) (Nat.le_refl _) _).setCell (p := ⟨w1.heap.size, 2, none⟩) (Nat.le_refl _) _).setCell (p := ⟨w1.heap.size, 3, none⟩) (Nat.le_refl _) _
            clear hqd
            go_wp2
            go_roundw
            case rel => exact ⟨k + 1, r, by omega, by omega, by go_num, hL5, s4, HP2⟩
            case measure => simp [intOf]; omega
          | false =>
            clear hqd
            go_wp2
            go_roundw
            case rel => exact ⟨k + 1, c, by omega, by omega, by go_num, hLq, hCq, HP2⟩
            case measure => simp [intOf]; omega
      · have e : c = b := by
          have := HP.out
          rw [List.drop_of_length_le (by rw [HN.out]; omega)] at this
          exact this
        subst e
        have hk' : ¬ (k : Int) < (n : Int) := by omega
        have hR5 := hR1.low hL
        obtain ⟨c0, c1, c2, c3⟩ := hC.cells
        obtain ⟨d0, d1, d2, d3⟩ := hR5.cells
        have f0 := hR5.frozen
        have s1 := heap_setCell_same wr w.heap.size 0 _ _ (.int .i64 (c.X : Int)) hR5
        have s2 := heap_setCell_same _ w.heap.size 1 _ _ (.int .i64 (c.Y : Int)) s1
        have s3 := heap_setCell_same _ w.heap.size 2 _ _ (.int .i64 (c.N : Int)) s2
        have s4 := heap_setCell_same _ w.heap.size 3 _ _ (.int .i64 (c.R : Int)) s3
        have hBr := hB01.trans (Below.mono hL hB01.size)
        have hBf : Below w.heap.size w ((((wr.setCell ⟨w.heap.size, 0, none⟩ (.int .i64 (c.X : Int))).setCell ⟨w.heap.size, 1, none⟩ (.int .i64 (c.Y : Int))).setCell ⟨w.heap.size, 2, none⟩ (.int .i64 (c.N : Int))).setCell ⟨w.heap.size, 3, none⟩ (.int .i64 (c.R : Int))) := (((hBr.setCell (p := ⟨w.heap.size, 0, none⟩) (Nat.le_refl _) _).setCell (p := ⟨w.heap.size, 1, none⟩) (Nat.le_refl _) _).setCell (p := ⟨w.heap.size, 2, none⟩) (Nat.le_refl _) _).setCell (p := ⟨w.heap.size, 3, none⟩) (Nat.le_refl _) _
        go_wp2
        exact bodyPost_ret (results_cell_tmp rfl _ _ w.heap.size 78 #[.int .i64 (c.X : Int), .int .i64 (c.Y : Int), .int .i64 (c.N : Int), .int .i64 (c.R : Int)] (0, 0) _ rfl s4 Try.underlying78 rfl (by kernel_rfl)) rfl ⟨rfl, hBf⟩
end Go.Proofs.Yteplejpbgajecab

/- The reference's piece and Diff of the layer histogram, walked. -/
namespace Go.Proofs.Yteplejpbgajecab
open Go.RowKit
attribute [local simp] low_drew

theorem exec_slB {u : World} {ao ao' : Option Addr} {n cap l h n' c' : Nat} (hr : ∀ u : World, (Instr.slice 22 (.slice ao n cap) (some (.int .i64 (l : Int))) (some (.int .i64 (h : Int))) none).run Try.prog u = .ok (.slice ao' n' c') u) {op : Oper} (x y z : Operand) (ho : op.op = .slice 22 x (some y) (some z) none) {ev : Operand → Value} (hx : ev x = .slice ao n cap) (hy : ev y = .int .i64 (l : Int)) (hz : ev z = .int .i64 (h : Int)) :
    (execOp ev op).run Try.prog u = .ok (.value (.slice ao' n' c')) u := by
  have h2 := run_sliceAt_slice (P := Try.prog) (w := u) 22 (.slice ao n cap) (some (.int .i64 (l : Int))) (some (.int .i64 (h : Int))) none (by kernel_rfl)
  simp only [execOp, ho, hx, hy, hz, Option.map_some, Option.map_none, Sem.run_bind, h2, hr u, Result.andThen_ok, Sem.run_pure]
theorem exec_st4 {u : World} {B : Nat} {r0 : Hr} (h : Gbx u B r0) {a b c d : Int} {op : Oper} (x l : Operand) (ho : op.op = .store 78 x l) {ev : Operand → Value} (hx : ev x = .pointer (some ⟨B, 0, none⟩)) (hl : ev l = .agg #[.int .i64 a, .int .i64 b, .int .i64 c, .int .i64 d]) :
    (execOp ev op).run Try.prog u = .ok .skip ((((u.setCell ⟨B, 0, none⟩ (.int .i64 a)).setCell ⟨B, 1, none⟩ (.int .i64 b)).setCell ⟨B, 2, none⟩ (.int .i64 c)).setCell ⟨B, 3, none⟩ (.int .i64 d)) := by
  obtain ⟨c0, c1, c2, c3⟩ := h.cells
  have fz := h.frozen
  simp only [execOp, ho, hx, hl]
  go_simp
theorem rbest_held {x y : List Int} {vx vy : Value} {W u : World} {o : Option Hr} {v : Value} (hx : HI u vx x) (hy : HI u vy y) (hxl : x.length ≤ 4096) (hyl : y.length ≤ 4096) (ho : Hid (best x y = o)) (hv : bestV o = v) (hL : Low W u) :
    Calls Try.prog 48 (#[vx, vy] ++ #[]) u fun e w' => ∃ v', e = .returned v' ∧ Low W w' ∧ (v' = v ∧ Below u.heap.size u w') := by
  refine (rBest_f x y vx vy u hx hy hxl hyl o ho).mono ?_
  rintro e w' ⟨rfl, hb⟩
  exact ⟨_, rfl, Below.trans hL (hb.mono (Below.size hL)), hv, hb⟩

theorem fp_snoc2 (a c k : Nat) : fp a c (k + 1) = fp a c k ++ [⟨(a + k : Nat), (c + k : Nat)⟩] := by
  induction k generalizing a c with
  | zero => rfl
  | succ k ih =>
    rw [fp, ih (a + 1) (c + 1), fp, List.cons_append, show a + 1 + k = a + (k + 1) by omega, show c + 1 + k = c + (k + 1) by omega]
/-- a call and something made: either may come first -/
theorem go_callVal {P : Program} {S : World → Prop} {md : Region.Mode} {ops : Array Oper} {Q : Exit → Act → World → Prop} {fuel : Nat} {listed : Array Bool} {A : Act} {w : World}
    (i d : Nat) (op : Oper) (j e : Nat) (oq : Oper) (hi : ops[i]? = some op) (hd : op.dst = some d) (hj : ops[j]? = some oq) (he : oq.dst = some e) (hr : Region.ready md ops listed = [i, j]) (hwt : Region.wanted op (yielded ops A.tmps) = true) (hwq : Region.wanted oq (yielded ops A.tmps) = true)
    (F : Nat) (x : Operand) (xs : Array Operand) (ts : Array TypeId) (ho : op.op = .call { callee := .value x, args := xs, argTypes := ts })
    (cap : Array Value) (hxv : A.eval x = .func (.func F) #[] cap) (args : Array Value) (hx : xs.map A.eval = args) (hen : ∀ args w, (callFunc F args).run P w = .ok (.enter F args) w) (R : Value → World → Prop)
    (hc : Calls P F (args ++ cap) w fun e w' => ∃ v, e = .returned v ∧ S w' ∧ R v w')
    (vq : Value) (wq : World) (hq : (execOp A.eval oq).run P w = .ok (.value vq) wq) (hS : S wq)
    (h : ∀ v w', S w' → R v w' → wpAnyH P md ops Q S fuel (listed.setIfInBounds i true) (A.put (some d) v) w')
    (h2 : wpAnyH P md ops Q S fuel (listed.setIfInBounds j true) (A.put (some e) vq) wq) :
    wpAnyH P md ops Q S (fuel + 1) listed A w := by
  refine wpAnyH_ready hr (by simp) (AllReadyH.cons hi (fun K hK => ?_) (AllReadyH.cons hj (fun K hK => ?_) AllReadyH.nil))
  · refine step_want hwt ?_
    unfold Oper.wp
    have e : (execOp A.eval op).run P w = .ok (.enter F (args ++ cap)) w := by
      have h1 := hen (args ++ cap) w
      simp only [execOp, ho, resolve, invoke]
      simp only [hxv, Deferred.ofValue, Sem.run_bind, Sem.run_pure, Result.andThen_ok, hx, Array.empty_append]
      exact h1
    rw [e, Oper.upon_enter]
    refine hc.mono ?_
    rintro e w' ⟨v, rfl, hb, hR⟩
    exact hK.out _ _ hb (fun hu => by rw [hd]; exact h v w' hu hR)
  · refine step_want hwq ?_
    unfold Oper.wp
    rw [hq, Oper.upon_value]
    exact hK.out _ _ hS (fun _ => by rw [he]; exact h2)

set_option maxRecDepth 10000 in
set_option maxHeartbeats 8000000 in
theorem rhpiece_f (x y : List Int) (W0 : World) (vx vy : Value) (hx : HI W0 vx x) (hy : HI W0 vy y) (hxl : x.length ≤ 4096) (hyl : y.length ≤ 4096) (f : Nat) : ∀ (w : World) (K : List Int) (_ : Ls W0 W0.heap.size x.length K w) (a b c d : Nat) (_ : a ≤ b) (_ : b ≤ x.length) (_ : c ≤ d) (_ : d ≤ y.length) (_ : b - a < f) (KF : List Int) (_ : Hid (wrk K (pcs (hmid x y) x y f a b c d) = KF)),
    Calls Try.prog 31 #[.slice (some ⟨W0.heap.size, 0, none⟩) x.length x.length, vx, vy, .agg #[.int .i64 (a : Int), .int .i64 (b : Int), .int .i64 (c : Int), .int .i64 (d : Int)]] w fun e w' => e = .returned (.tuple #[]) ∧ Ls W0 W0.heap.size x.length KF w' ∧ w.grownBy w' (some W0.heap.size) := by
  obtain ⟨xo, xc, rfl⟩ := Holds.form hx
  obtain ⟨yo, yc, rfl⟩ := Holds.form hy
  induction f with
  | zero => intro w K hS a b c d hab hb hcd hd hf; omega
  | succ f ih =>
    intro w K hS a b c d hab hb hcd hd hf KF hKF
    have hg := hS.lt.2
    obtain ⟨k, hk⟩ : ∃ k, k = tf x y a b c d := ⟨_, rfl⟩
    obtain ⟨m, hm⟩ : ∃ m, m = tb x y (a + k) b (c + k) d := ⟨_, rfl⟩
    have HKF : Hid (wrk (wrk K (fp a c k ++ bp b d m)) (if a + k < b - m ∧ c + k < d - m then hmid x y (pcs (hmid x y) x y f) (a + k) (b - m) (c + k) (d - m) else []) = KF) := (by
      show _ = _
      rw [← hKF.out, pcs, ends, ← hk, ← hm, wrk_append, wrk_append, wrk_append])
    have hkl := tf_le x y a b c d
    have hml := tb_le x y (a + k) b (c + k) d
    rw [← hk] at hkl
    rw [← hm] at hml
    have hQ0 := Pbox.new w a b c d
    have hB0 := (Below.refl w.heap.size w).alloc (Nat.le_refl _) (.cells #[.int .i64 (a : Int), .int .i64 (b : Int), .int .i64 (c : Int), .int .i64 (d : Int)] 58)
    have HB : Hid (k = tf x y a b c d ∧ m = tb x y (a + k) b (c + k) d) := ⟨hk, hm⟩
    clear hKF hk hm
    go_enter Try.func31, Try.ntmps31
    go_wp2_with fail
    refine (Trim_f x y W0 _ _ _ hx hy hxl hyl K (hS.keep hB0) a b c d hab hb hcd hd (by simp; omega)).mono ?_
    rintro e w1 ⟨k', m', hk', hm', rfl, hS1, hG1⟩
    obtain rfl : k' = k := by rw [hk', HB.out.1]
    obtain rfl : m' = m := by rw [hm', HB.out.2]
    have hQ1 := hQ0.keep hG1 (by simp; omega)
    have hG1' : w.grownBy w1 (some W0.heap.size) := (low_grown hB0 _).trans hG1
    clear hk' hm' HB hS hB0 hQ0 hG1
    obtain ⟨A, hA⟩ : ∃ A, a + k' = A := ⟨_, rfl⟩
    obtain ⟨C, hC⟩ : ∃ C, c + k' = C := ⟨_, rfl⟩
    obtain ⟨b1, hb1⟩ : ∃ B, b - m' = B := ⟨_, rfl⟩
    obtain ⟨d1, hd1⟩ : ∃ D, d - m' = D := ⟨_, rfl⟩
    obtain ⟨K1, hK1⟩ : ∃ K1, wrk K (fp a c k' ++ bp b d m') = K1 := ⟨_, rfl⟩
    rw [hK1] at hS1 HKF
    rw [hA, hC, hb1, hd1] at HKF ⊢
    have hAb : A ≤ b1 := by omega
    have hCd : C ≤ d1 := by omega
    have hbx : b1 ≤ x.length := by omega
    have hdy : d1 ≤ y.length := by omega
    have hf1 : b1 - A ≤ f := by omega
    clear hA hC hb1 hd1 hK1 hkl hml hab hb hcd hd hf
    obtain ⟨c0, c1, c2, c3⟩ := hQ1.cells
    have f0 := hQ1.frozen
    have hQ2 : Pbox ((((w1.setCell ⟨w.heap.size, 0, none⟩ (.int .i64 (A : Int))).setCell ⟨w.heap.size, 1, none⟩ (.int .i64 (b1 : Int))).setCell ⟨w.heap.size, 2, none⟩ (.int .i64 (C : Int))).setCell ⟨w.heap.size, 3, none⟩ (.int .i64 (d1 : Int))) w.heap.size A b1 C d1 := by
      have s1 := heap_setCell_same w1 w.heap.size 0 _ _ (.int .i64 (A : Int)) hQ1
      have s2 := heap_setCell_same _ w.heap.size 1 _ _ (.int .i64 (b1 : Int)) s1
      have s3 := heap_setCell_same _ w.heap.size 2 _ _ (.int .i64 (C : Int)) s2
      exact heap_setCell_same _ w.heap.size 3 _ _ (.int .i64 (d1 : Int)) s3
    have hgw := hS1.low.size
    have hS2 := ls_other (ls_other (ls_other (ls_other hS1 (g := w.heap.size) (by omega) (by omega) 0 (.int .i64 (A : Int))) (g := w.heap.size) (by omega) (by omega) 1 (.int .i64 (b1 : Int))) (g := w.heap.size) (by omega) (by omega) 2 (.int .i64 (C : Int))) (g := w.heap.size) (by omega) (by omega) 3 (.int .i64 (d1 : Int))
    have hG2 := grown_new (grown_new (grown_new (grown_new hG1' (B := w.heap.size) (by omega) 0 (.int .i64 (A : Int))) (B := w.heap.size) (by omega) 1 (.int .i64 (b1 : Int))) (B := w.heap.size) (by omega) 2 (.int .i64 (C : Int))) (B := w.heap.size) (by omega) 3 (.int .i64 (d1 : Int))
    obtain ⟨W2, hW2⟩ : ∃ W2, (((w1.setCell ⟨w.heap.size, 0, none⟩ (.int .i64 (A : Int))).setCell ⟨w.heap.size, 1, none⟩ (.int .i64 (b1 : Int))).setCell ⟨w.heap.size, 2, none⟩ (.int .i64 (C : Int))).setCell ⟨w.heap.size, 3, none⟩ (.int .i64 (d1 : Int)) = W2 := ⟨_, rfl⟩
    rw [hW2] at hQ2 hS2 hG2
    unfold pcV
    by_cases hm0 : A < b1 ∧ C < d1
    · have e1 : ((A : Int) == (b1 : Int)) = false := by simp; omega
      have e2 : ((C : Int) == (d1 : Int)) = false := by simp; omega
      have HK2 : Hid (wrk K1 (hmid x y (pcs (hmid x y) x y f) A b1 C d1) = KF) := (by
        show _ = _
        have := HKF.out
        rw [if_pos hm0] at this
        exact this)
      clear HKF
      obtain ⟨c0, c1, c2, c3⟩ := hQ2.cells
      obtain ⟨X, hX⟩ : ∃ X, sub x A b1 = X := ⟨_, rfl⟩
      obtain ⟨Y, hY⟩ : ∃ Y, sub y C d1 = Y := ⟨_, rfl⟩
      obtain ⟨nx, hnx⟩ : ∃ nx, b1 - A = nx := ⟨_, rfl⟩
      obtain ⟨ny, hny⟩ : ∃ ny, d1 - C = ny := ⟨_, rfl⟩
      have r1 := run_slB xo x.length xc A b1 hAb hbx (hold_cap hx)
      have r2 := run_slB yo y.length yc C d1 hCd hdy (hold_cap hy)
      have hXl : X.length = nx := by rw [← hX, sub_length x A b1 hbx, hnx]
      have hYl : Y.length = ny := by rw [← hY, sub_length y C d1 hdy, hny]
      rw [hnx] at r1
      rw [hny] at r2
      have hxs : ∀ u : World, Low W2 u → HI u (.slice (slF xo xc A) nx (xc - A)) X ∧ HI u (.slice (slF yo yc C) ny (yc - C)) Y := fun u hu => by
        have hlow : Below W0.heap.size W0 u := hS2.low.trans (Below.mono hu hS2.low.size)
        have h1 := hold_sub (HI.keep hx hlow (Nat.le_refl _)) hAb hbx
        have h2 := hold_sub (HI.keep hy hlow (Nat.le_refl _)) hCd hdy
        unfold HI
        rw [hXl, hYl]
        rw [hX, hnx] at h1
        rw [hY, hny] at h2
        exact ⟨h1, h2⟩
      have HX : Hid (X.length ≤ 4096 ∧ Y.length ≤ 4096) := (by refine ⟨?_, ?_⟩ <;> omega)
      obtain ⟨o, ho⟩ : ∃ o, best X Y = o := ⟨_, rfl⟩
      have HO : Hid (best X Y = o) := ho
      have HK4 : Hid (wrk K1 (hsel x y (pcs (hmid x y) x y f) A b1 C d1 o) = KF) := (by
        show _ = _
        have := HK2.out
        rw [hmid, hX, hY, ho] at this
        exact this)
      have HIn : Hid (∀ r, o = some r → 0 < r.N ∧ A + r.X + r.N ≤ b1 ∧ C + r.Y + r.N ≤ d1 ∧ r.R ≤ 4096) := (by
        intro r hr
        have hrun := (best_some (ho.trans hr)).1
        have h2 := run_in (x := x) (y := y) (a := A) (b := b1) (c := C) (d := d1) hbx hdy (by rw [hX, hY]; exact hrun)
        have h3 : r.R ≤ X.length := by
          rw [hrun.r]
          have : ∀ n, rar X r.X n ≤ X.length := by
            intro n
            induction n with
            | zero => exact Nat.le_refl _
            | succ n ih => rw [rar]; omega
          exact this _
        exact ⟨h2.1, h2.2.1, h2.2.2.1, by omega⟩)
      obtain ⟨r, hr⟩ : ∃ r, o.getD ⟨0, 0, 0, 0⟩ = r := ⟨_, rfl⟩
      obtain ⟨fl, hfl⟩ : ∃ fl, o.isSome = fl := ⟨_, rfl⟩
      have HE0 : bestV o = .tuple #[.agg #[.int .i64 (r.X : Int), .int .i64 (r.Y : Int), .int .i64 (r.N : Int), .int .i64 (r.R : Int)], .bool fl] := (by unfold bestV; rw [hr, hfl])
      have HRF : Hid (o.getD ⟨0, 0, 0, 0⟩ = r ∧ o.isSome = fl) := ⟨hr, hfl⟩
      clear hr hfl
      obtain ⟨rX, rY, rN, rR⟩ := r
      have HE : Hid (bestV o = .tuple #[.agg #[.int .i64 (rX : Int), .int .i64 (rY : Int), .int .i64 (rN : Int), .int .i64 (rR : Int)], .bool fl]) := HE0
      clear HE0
      generalize slF xo xc A = xo2 at r1 hxs
      generalize slF yo yc C = yo2 at r2 hxs
      generalize xc - A = xc2 at r1 hxs
      generalize yc - C = yc2 at r2 hxs
      clear hX hY hnx hny hXl hYl HK2 ho
      have hcs : ∀ u : World, Low W2 u → u.cell? ⟨w.heap.size, 0, none⟩ = some (.int .i64 (A : Int)) ∧ u.cell? ⟨w.heap.size, 1, none⟩ = some (.int .i64 (b1 : Int)) ∧ u.cell? ⟨w.heap.size, 2, none⟩ = some (.int .i64 (C : Int)) ∧ u.cell? ⟨w.heap.size, 3, none⟩ = some (.int .i64 (d1 : Int)) := fun u hu => (hQ2.low hu).cells
      go_wp2_with fail
      clear hW2 f0 c0 c1 c2 c3
      refine wp_region_noPanic ?_
      refine wp_region_held_drew (S := fun u => Low W2 u) (by kernel_rfl) (Below.dN (Below.refl _ W2) 1) (fun hHeld => ?_)
      refine go_take 0 31 _ (.slice xo x.length xc) rfl (by kernel_rfl) (by kernel_rfl) (by kernel_rfl) (by kernel_rfl) (fun _ _ _ h => h) (Or.inl ⟨by kernel_rfl, fun u hu => by kernel_rfl⟩) hHeld ?_
      simp only [Act.put, List.setIfInBounds_toArray, List.set_cons_zero, List.set_cons_succ]
      refine go_take 1 32 _ (.pointer (some ⟨w.heap.size, 0, none⟩)) rfl (by kernel_rfl) (by kernel_rfl) (by kernel_rfl) (by kernel_rfl) (fun _ _ _ h => h) (Or.inl ⟨by kernel_rfl, fun u hu => by kernel_rfl⟩) hHeld ?_
      simp only [Act.put, List.setIfInBounds_toArray, List.set_cons_zero, List.set_cons_succ]
      refine go_take 2 33 _ (.int .i64 (A : Int)) rfl (by kernel_rfl) (by kernel_rfl) (by kernel_rfl) (by kernel_rfl) (fun _ _ _ h => h) (Or.inl ⟨by kernel_rfl, fun u hu => load_int (hcs u hu).1 (.tmp 32) (by kernel_rfl) (by kernel_rfl)⟩) hHeld ?_
      simp only [Act.put, List.setIfInBounds_toArray, List.set_cons_zero, List.set_cons_succ]
      refine go_take 3 34 _ (.pointer (some ⟨w.heap.size, 1, none⟩)) rfl (by kernel_rfl) (by kernel_rfl) (by kernel_rfl) (by kernel_rfl) (fun _ _ _ h => h) (Or.inl ⟨by kernel_rfl, fun u hu => by kernel_rfl⟩) hHeld ?_
      simp only [Act.put, List.setIfInBounds_toArray, List.set_cons_zero, List.set_cons_succ]
      refine go_take 4 35 _ (.int .i64 (b1 : Int)) rfl (by kernel_rfl) (by kernel_rfl) (by kernel_rfl) (by kernel_rfl) (fun _ _ _ h => h) (Or.inl ⟨by kernel_rfl, fun u hu => load_int (hcs u hu).2.1 (.tmp 34) (by kernel_rfl) (by kernel_rfl)⟩) hHeld ?_
      simp only [Act.put, List.setIfInBounds_toArray, List.set_cons_zero, List.set_cons_succ]
      refine go_take 5 36 _ (.slice xo2 nx xc2) rfl (by kernel_rfl) (by kernel_rfl) (by kernel_rfl) (by kernel_rfl) (fun _ _ _ h => h) (Or.inl ⟨by kernel_rfl, fun u hu => exec_slB r1 (.tmp 31) (.tmp 33) (.tmp 35) (by kernel_rfl) (by kernel_rfl) (by kernel_rfl) (by kernel_rfl)⟩) hHeld ?_
      simp only [Act.put, List.setIfInBounds_toArray, List.set_cons_zero, List.set_cons_succ]
      refine go_take 6 37 _ (.slice yo y.length yc) rfl (by kernel_rfl) (by kernel_rfl) (by kernel_rfl) (by kernel_rfl) (fun _ _ _ h => h) (Or.inl ⟨by kernel_rfl, fun u hu => by kernel_rfl⟩) hHeld ?_
      simp only [Act.put, List.setIfInBounds_toArray, List.set_cons_zero, List.set_cons_succ]
      refine go_take 7 38 _ (.pointer (some ⟨w.heap.size, 2, none⟩)) rfl (by kernel_rfl) (by kernel_rfl) (by kernel_rfl) (by kernel_rfl) (fun _ _ _ h => h) (Or.inl ⟨by kernel_rfl, fun u hu => by kernel_rfl⟩) hHeld ?_
      simp only [Act.put, List.setIfInBounds_toArray, List.set_cons_zero, List.set_cons_succ]
      refine go_take 8 39 _ (.int .i64 (C : Int)) rfl (by kernel_rfl) (by kernel_rfl) (by kernel_rfl) (by kernel_rfl) (fun _ _ _ h => h) (Or.inl ⟨by kernel_rfl, fun u hu => load_int (hcs u hu).2.2.1 (.tmp 38) (by kernel_rfl) (by kernel_rfl)⟩) hHeld ?_
      simp only [Act.put, List.setIfInBounds_toArray, List.set_cons_zero, List.set_cons_succ]
      refine go_take 9 40 _ (.pointer (some ⟨w.heap.size, 3, none⟩)) rfl (by kernel_rfl) (by kernel_rfl) (by kernel_rfl) (by kernel_rfl) (fun _ _ _ h => h) (Or.inl ⟨by kernel_rfl, fun u hu => by kernel_rfl⟩) hHeld ?_
      simp only [Act.put, List.setIfInBounds_toArray, List.set_cons_zero, List.set_cons_succ]
      refine go_take 10 41 _ (.int .i64 (d1 : Int)) rfl (by kernel_rfl) (by kernel_rfl) (by kernel_rfl) (by kernel_rfl) (fun _ _ _ h => h) (Or.inl ⟨by kernel_rfl, fun u hu => load_int (hcs u hu).2.2.2 (.tmp 40) (by kernel_rfl) (by kernel_rfl)⟩) hHeld ?_
      simp only [Act.put, List.setIfInBounds_toArray, List.set_cons_zero, List.set_cons_succ]
      refine go_take 11 42 _ (.slice yo2 ny yc2) rfl (by kernel_rfl) (by kernel_rfl) (by kernel_rfl) (by kernel_rfl) (fun _ _ _ h => h) (Or.inl ⟨by kernel_rfl, fun u hu => exec_slB r2 (.tmp 37) (.tmp 39) (.tmp 41) (by kernel_rfl) (by kernel_rfl) (by kernel_rfl) (by kernel_rfl)⟩) hHeld ?_
      simp only [Act.put, List.setIfInBounds_toArray, List.set_cons_zero, List.set_cons_succ]
      refine go_callVal 12 43 _ 16 8 _ rfl (by kernel_rfl) rfl (by kernel_rfl) (by kernel_rfl) (by kernel_rfl) (by kernel_rfl) 48 (.func 48) #[.tmp 36, .tmp 42] #[22, 22] (by kernel_rfl) #[] (by kernel_rfl) #[.slice xo2 nx xc2, .slice yo2 ny yc2] (by kernel_rfl) (enters_of Try.func48 (by kernel_rfl) rfl) _ (rbest_held (hxs _ hHeld).1 (hxs _ hHeld).2 HX.out.1 HX.out.2 HO HE.out hHeld) (.pointer (some ⟨W2.drew.heap.size, 0, none⟩)) (W2.drew.alloc (.cells #[.int .i64 0, .int .i64 0, .int .i64 0, .int .i64 0] 78)) (by kernel_rfl) (Below.alloc hHeld (Below.size hHeld) _) ?_ ?_
      · rintro _ u12 hHeld ⟨rfl, hcl⟩
        simp only [Act.put, List.setIfInBounds_toArray, List.set_cons_zero, List.set_cons_succ]
        refine go_take 13 30 _ (.tuple #[.agg #[.int .i64 (rX : Int), .int .i64 (rY : Int), .int .i64 (rN : Int), .int .i64 (rR : Int)], .bool fl]) rfl (by kernel_rfl) (by kernel_rfl) (by kernel_rfl) (by kernel_rfl) (fun _ _ _ h => h) (Or.inl ⟨by kernel_rfl, fun u hu => by kernel_rfl⟩) hHeld ?_
        simp only [Act.put, List.setIfInBounds_toArray, List.set_cons_zero, List.set_cons_succ]
        refine go_take 14 44 _ (.agg #[.int .i64 (rX : Int), .int .i64 (rY : Int), .int .i64 (rN : Int), .int .i64 (rR : Int)]) rfl (by kernel_rfl) (by kernel_rfl) (by kernel_rfl) (by kernel_rfl) (fun _ _ _ h => h) (Or.inl ⟨by kernel_rfl, fun u hu => by kernel_rfl⟩) hHeld ?_
        simp only [Act.put, List.setIfInBounds_toArray, List.set_cons_zero, List.set_cons_succ]
        refine go_take 15 45 _ (.bool fl) rfl (by kernel_rfl) (by kernel_rfl) (by kernel_rfl) (by kernel_rfl) (fun _ _ _ h => h) (Or.inl ⟨by kernel_rfl, fun u hu => by kernel_rfl⟩) hHeld ?_
        simp only [Act.put, List.setIfInBounds_toArray, List.set_cons_zero, List.set_cons_succ]
        refine go_val 16 8 _ rfl (by kernel_rfl) (by kernel_rfl) (by kernel_rfl) (.pointer (some ⟨u12.heap.size, 0, none⟩)) (u12.alloc (.cells #[.int .i64 0, .int .i64 0, .int .i64 0, .int .i64 0] 78)) (by kernel_rfl) (Below.alloc hHeld (Below.size hHeld) _) ?_
        simp only [Act.put, List.setIfInBounds_toArray, List.set_cons_zero, List.set_cons_succ]
        have hG0 : Gbx (u12.alloc (.cells #[.int .i64 0, .int .i64 0, .int .i64 0, .int .i64 0] 78)) u12.heap.size ⟨0, 0, 0, 0⟩ := Gbx.new u12 ⟨0, 0, 0, 0⟩
        obtain ⟨Br, hBr⟩ : ∃ Br, u12.heap.size = Br := ⟨_, rfl⟩
        have hBl : W2.heap.size ≤ Br := by rw [← hBr]; exact Below.size hHeld
        replace hHeld : Low W2 (u12.alloc (.cells #[.int .i64 0, .int .i64 0, .int .i64 0, .int .i64 0] 78)) := Below.alloc hHeld (Below.size hHeld) _
        clear hcl
        generalize u12.alloc (.cells #[.int .i64 0, .int .i64 0, .int .i64 0, .int .i64 0] 78) = u13 at hG0 hHeld ⊢
        rw [hBr] at hG0 ⊢
        have hL4 : Low W2 ((((u13.setCell ⟨Br, 0, none⟩ (.int .i64 (rX : Int))).setCell ⟨Br, 1, none⟩ (.int .i64 (rY : Int))).setCell ⟨Br, 2, none⟩ (.int .i64 (rN : Int))).setCell ⟨Br, 3, none⟩ (.int .i64 (rR : Int))) := (((Below.setCell (p := ⟨Br, 0, none⟩) hHeld hBl _).setCell (p := ⟨Br, 1, none⟩) hBl _).setCell (p := ⟨Br, 2, none⟩) hBl _).setCell (p := ⟨Br, 3, none⟩) hBl _
        have hG4 : Gbx ((((u13.setCell ⟨Br, 0, none⟩ (.int .i64 (rX : Int))).setCell ⟨Br, 1, none⟩ (.int .i64 (rY : Int))).setCell ⟨Br, 2, none⟩ (.int .i64 (rN : Int))).setCell ⟨Br, 3, none⟩ (.int .i64 (rR : Int))) Br ⟨rX, rY, rN, rR⟩ := heap_setCell_same _ Br 3 _ _ _ (heap_setCell_same _ Br 2 _ _ _ (heap_setCell_same _ Br 1 _ _ _ (heap_setCell_same u13 Br 0 _ _ _ hG0)))
        refine go_skip 17 _ rfl (by kernel_rfl) (by kernel_rfl) (by kernel_rfl) ((((u13.setCell ⟨Br, 0, none⟩ (.int .i64 (rX : Int))).setCell ⟨Br, 1, none⟩ (.int .i64 (rY : Int))).setCell ⟨Br, 2, none⟩ (.int .i64 (rN : Int))).setCell ⟨Br, 3, none⟩ (.int .i64 (rR : Int))) (exec_st4 hG0 (.tmp 8) (.tmp 44) (by kernel_rfl) (by kernel_rfl) (by kernel_rfl)) (hL4) ?_
        refine go_take 18 9 _ (.bool fl) rfl (by kernel_rfl) (by kernel_rfl) (by kernel_rfl) (by kernel_rfl) (fun _ _ _ h => h) (Or.inl ⟨by kernel_rfl, fun u hu => by kernel_rfl⟩) hL4 ?_
        simp only [Act.put, List.setIfInBounds_toArray, List.set_cons_zero, List.set_cons_succ]
        refine wpAnyH_done (by kernel_rfl) ?_ _
        refine NoPanic.normal ?_
        have hgB : W0.heap.size < Br := by have := hS2.lt; omega
        have hwB : w.heap.size < Br := Nat.lt_of_lt_of_le (Array.getElem?_eq_some_iff.1 hQ2).1 hBl
        have hQ3 := hQ2.low hL4
        have hS3 := hS2.keep hL4
        have hG3 := hG2.trans (low_grown hL4 (some W0.heap.size))
        clear hcs hxs r1 r2 hHeld hG0 hBr hQ2 hS2 hG2 HE HO HX hS1 hG1' hQ1 hL4
        generalize (((u13.setCell ⟨Br, 0, none⟩ (.int .i64 (rX : Int))).setCell ⟨Br, 1, none⟩ (.int .i64 (rY : Int))).setCell ⟨Br, 2, none⟩ (.int .i64 (rN : Int))).setCell ⟨Br, 3, none⟩ (.int .i64 (rR : Int)) = W4 at hG4 hQ3 hS3 hG3 ⊢
        obtain ⟨c0, c1, c2, c3⟩ := hQ3.cells
        obtain ⟨g0, g1, g2, g3⟩ := hG4.cells
        cases o with
        | none =>
          obtain rfl : false = fl := HRF.out.2
          have e : K1 = KF := HK4.out
          subst e
          go_wp2
          (try simp only [Exit.inBlock, Exit.then])
          refine bodyPost_ret (results_none rfl _ _ _) rfl ?_
          exact ⟨rfl, hS3, hG3⟩
        | some r =>
          obtain rfl : true = fl := HRF.out.2
          obtain rfl : r = ⟨rX, rY, rN, rR⟩ := HRF.out.1
          obtain ⟨q1, q2, q3, q4⟩ := HIn.out _ rfl
          simp only at q1 q2 q3 q4 g0 g1 g2 g3
          clear HRF HIn
          by_cases h64 : 64 < rR
          · have e3 : decide ((64 : Int) < (rR : Int)) = true := decide_eq_true (by omega)
            have e4 : decide ((rR : Int) > 64) = true := e3
            have HK5 : Hid (wrk K1 (lp A C (kp 0 (sub x A b1) (sub y C d1))) = KF) := (by
              show _ = _
              have := HK4.out
              rw [hsel, if_pos h64] at this
              exact this)
            clear HK4 h64
            go_wp2_with fail
            refine (Least_f x y W0 _ _ _ hx hy hxl hyl K1 hS3 A b1 C d1 hAb hbx hCd hdy KF HK5).mono ?_
            rintro e w4 ⟨rfl, hS4, hG5⟩
            have hG6 := hG3.trans hG5
            go_wp2
            (try simp only [Exit.inBlock, Exit.then])
            refine bodyPost_ret (results_none rfl _ _ _) rfl ?_
            exact ⟨rfl, hS4, hG6⟩
          · have e3 : decide ((64 : Int) < (rR : Int)) = false := decide_eq_false (by omega)
            have e4 : decide ((rR : Int) > 64) = false := e3
            obtain ⟨u, hu⟩ : ∃ u, A + rX = u := ⟨_, rfl⟩
            obtain ⟨v, hv⟩ : ∃ v, C + rY = v := ⟨_, rfl⟩
            obtain ⟨u2, hu2⟩ : ∃ u2, u + rN = u2 := ⟨_, rfl⟩
            obtain ⟨v2, hv2⟩ : ∃ v2, v + rN = v2 := ⟨_, rfl⟩
            have HK5 : Hid (wrk (wrk (wrk K1 (fp u v rN)) (pcs (hmid x y) x y f A u C v)) (pcs (hmid x y) x y f u2 b1 v2 d1) = KF) := (by
              show _ = _
              have := HK4.out
              rw [hsel, if_neg h64, wrk_append, wrk_append] at this
              simp only [hu, hv, hu2, hv2] at this
              exact this)
            rw [hu, hu2] at q2
            rw [hv, hv2] at q3
            have hAu : A ≤ u := by omega
            have hCv : C ≤ v := by omega
            have huu : u < u2 := by omega
            have hvv : v < v2 := by omega
            have n1 : (A : Int) + (rX : Int) = (u : Int) := by omega
            have n2 : (C : Int) + (rY : Int) = (v : Int) := by omega
            have n3 : IntKind.i64.wrap (u : Int) = (u : Int) := by rw [IntKind.wrap_i64]; omega
            have n4 : IntKind.i64.wrap (v : Int) = (v : Int) := by rw [IntKind.wrap_i64]; omega
            have m1 : (u : Int) + (rN : Int) = (u2 : Int) := by omega
            have m2 : (v : Int) + (rN : Int) = (v2 : Int) := by omega
            have m3 : IntKind.i64.wrap (u2 : Int) = (u2 : Int) := by rw [IntKind.wrap_i64]; omega
            have m4 : IntKind.i64.wrap (v2 : Int) = (v2 : Int) := by rw [IntKind.wrap_i64]; omega
            clear HK4 h64 hu hv
            go_wp2_with fail
            go_big_quiet (fail)
            have hQ4 := hQ3.low (Below.dN (Below.refl _ W4) nq)
            have hS4 := hS3.drewN nq
            have hG5 := grown_drewN hG3 nq
            have hO4 := hG4.low (Below.dN (Below.refl _ W4) nq)
            clear hQ3 hS3 hG3 hG4 c0 c1 c2 c3 g0 g1 g2 g3 n1 n2 n3 n4 e3 e4
            generalize W4.drewN nq = wf at hQ4 hS4 hG5 hO4 ⊢
            go_wp2
            go_loopw [12] (fun iv wr => ∃ i : Nat, i ≤ rN ∧ iv = .int .i64 i ∧ Ls W0 W0.heap.size x.length (wrk K1 (fp u v i)) wr ∧ w.grownBy wr (some W0.heap.size) ∧ Pbox wr w.heap.size A b1 C d1 ∧ Gbx wr Br ⟨rX, rY, rN, rR⟩) (fun iv _ => rN - (intOf iv).toNat)
            case atStart => exact ⟨0, Nat.zero_le _, rfl, hS4, hG5, hQ4, hO4⟩
            case round =>
              clear hQ4 hS4 hG5 hO4
              obtain ⟨i, hi, rfl, hS, hG, hQ, hO⟩ := hrel
              have hwr := hS.low.size
              obtain ⟨c0, c1, c2, c3⟩ := hQ.cells
              obtain ⟨g0, g1, g2, g3⟩ := hO.cells
              simp only at g0 g1 g2 g3
              by_cases hlt : i < rN
              · have hS1 := hS.set (u + i) ((v + i : Nat) : Int)
                have he : (wrk K1 (fp u v i)).set (u + i) ((v + i : Nat) : Int) = wrk K1 (fp u v (i + 1)) := by rw [fp_snoc2, wrk_append]; rfl
                rw [he] at hS1
                have hl := hS.len
                obtain ⟨s, hs⟩ : ∃ s, u + i = s := ⟨_, rfl⟩
                obtain ⟨t, ht⟩ : ∃ t, v + i = t := ⟨_, rfl⟩
                rw [hs, ht] at hS1
                have d0 := hS.at (List.getElem?_eq_getElem (i := s) (by omega))
                generalize (wrk K1 (fp u v i))[s] = z0 at d0
                have f1 := hS.own.frozenAt s
                have hgs := grown_set wr W0.heap.size s (.int .i64 (t : Int))
                have hG1 := hG.trans hgs
                have hQ1 := hQ.keep hgs (by simp; omega)
                have hO1 := hO.keep hgs (by simp; omega)
                have n1 : (u : Int) + (i : Int) = (s : Int) := by omega
                have n2 : (v : Int) + (i : Int) = (t : Int) := by omega
                have n3 : IntKind.i64.wrap (s : Int) = (s : Int) := by rw [IntKind.wrap_i64]; omega
                have n4 : IntKind.i64.wrap (t : Int) = (t : Int) := by rw [IntKind.wrap_i64]; omega
                have i3 : 0 ≤ (s : Int) := by omega
                have i4 : (s : Int) < (x.length : Int) := by omega
                clear hs ht he hS hG hQ hO hgs
                go_wp2
                go_roundw
                case rel => exact ⟨i + 1, by omega, by go_num, hS1, hG1, hQ1, hO1⟩
                case measure => simp [intOf]; omega
              · obtain rfl : i = rN := by omega
                obtain ⟨K2, hK2⟩ : ∃ K2, wrk (wrk K1 (fp u v i)) (pcs (hmid x y) x y f A u C v) = K2 := ⟨_, rfl⟩
                have HA : Hid (wrk (wrk K1 (fp u v i)) (pcs (hmid x y) x y f A u C v) = K2) := hK2
                have HB : Hid (wrk K2 (pcs (hmid x y) x y f u2 b1 v2 d1) = KF) := (by
                  show _ = _
                  have := HK5.out
                  rw [hK2] at this
                  exact this)
                clear hK2 HK5 hu2 hv2
                go_wp2_with fail
                refine (ih wr _ hS A u C v hAu (by omega) hCv (by omega) (by omega) K2 HA).mono ?_
                rintro e w5 ⟨rfl, hS5, hG5⟩
                have hG6 := hG.trans hG5
                have hQ6 := hQ.keep hG5 (by simp; omega)
                have hO6 := hO.keep hG5 (by simp; omega)
                clear hS hG hQ hO hG5 c0 c1 c2 c3 g0 g1 g2 g3
                obtain ⟨c0, c1, c2, c3⟩ := hQ6.cells
                obtain ⟨g0, g1, g2, g3⟩ := hO6.cells
                simp only at g0 g1 g2 g3
                go_wp2_with fail
                refine (ih w5 K2 hS5 u2 b1 v2 d1 (by omega) hbx (by omega) hdy (by omega) KF HB).mono ?_
                rintro e w6 ⟨rfl, hS7, hG7⟩
                have hG8 := hG6.trans hG7
                go_wp2
                go_end0
                exact ⟨rfl, hS7, hG8⟩
      · have hG0 : Gbx (W2.drew.alloc (.cells #[.int .i64 0, .int .i64 0, .int .i64 0, .int .i64 0] 78)) W2.drew.heap.size ⟨0, 0, 0, 0⟩ := Gbx.new W2.drew ⟨0, 0, 0, 0⟩
        obtain ⟨Br, hBr⟩ : ∃ Br, W2.drew.heap.size = Br := ⟨_, rfl⟩
        have hBl : W2.heap.size ≤ Br := by rw [← hBr]; exact Below.size hHeld
        replace hHeld : Low W2 (W2.drew.alloc (.cells #[.int .i64 0, .int .i64 0, .int .i64 0, .int .i64 0] 78)) := Below.alloc hHeld (Below.size hHeld) _
        generalize W2.drew.alloc (.cells #[.int .i64 0, .int .i64 0, .int .i64 0, .int .i64 0] 78) = u12 at hG0 hHeld ⊢
        rw [hBr] at hG0 ⊢
        simp only [Act.put, List.setIfInBounds_toArray, List.set_cons_zero, List.set_cons_succ]
        refine go_callE 12 43 _ rfl (by kernel_rfl) (by kernel_rfl) (by kernel_rfl) 48 (.func 48) #[.tmp 36, .tmp 42] #[22, 22] (by kernel_rfl) #[] (by kernel_rfl) #[.slice xo2 nx xc2, .slice yo2 ny yc2] (by kernel_rfl) (enters_of Try.func48 (by kernel_rfl) rfl) _ (rbest_held (hxs _ hHeld).1 (hxs _ hHeld).2 HX.out.1 HX.out.2 HO HE.out hHeld) ?_
        rintro _ u13 hHeld ⟨rfl, hcl⟩
        simp only [Act.put, List.setIfInBounds_toArray, List.set_cons_zero, List.set_cons_succ]
        replace hG0 := hG0.low hcl
        clear hcl
        refine go_take 13 30 _ (.tuple #[.agg #[.int .i64 (rX : Int), .int .i64 (rY : Int), .int .i64 (rN : Int), .int .i64 (rR : Int)], .bool fl]) rfl (by kernel_rfl) (by kernel_rfl) (by kernel_rfl) (by kernel_rfl) (fun _ _ _ h => h) (Or.inl ⟨by kernel_rfl, fun u hu => by kernel_rfl⟩) hHeld ?_
        simp only [Act.put, List.setIfInBounds_toArray, List.set_cons_zero, List.set_cons_succ]
        refine go_take 14 44 _ (.agg #[.int .i64 (rX : Int), .int .i64 (rY : Int), .int .i64 (rN : Int), .int .i64 (rR : Int)]) rfl (by kernel_rfl) (by kernel_rfl) (by kernel_rfl) (by kernel_rfl) (fun _ _ _ h => h) (Or.inl ⟨by kernel_rfl, fun u hu => by kernel_rfl⟩) hHeld ?_
        simp only [Act.put, List.setIfInBounds_toArray, List.set_cons_zero, List.set_cons_succ]
        refine go_take 15 45 _ (.bool fl) rfl (by kernel_rfl) (by kernel_rfl) (by kernel_rfl) (by kernel_rfl) (fun _ _ _ h => h) (Or.inl ⟨by kernel_rfl, fun u hu => by kernel_rfl⟩) hHeld ?_
        simp only [Act.put, List.setIfInBounds_toArray, List.set_cons_zero, List.set_cons_succ]
        have hL4 : Low W2 ((((u13.setCell ⟨Br, 0, none⟩ (.int .i64 (rX : Int))).setCell ⟨Br, 1, none⟩ (.int .i64 (rY : Int))).setCell ⟨Br, 2, none⟩ (.int .i64 (rN : Int))).setCell ⟨Br, 3, none⟩ (.int .i64 (rR : Int))) := (((Below.setCell (p := ⟨Br, 0, none⟩) hHeld hBl _).setCell (p := ⟨Br, 1, none⟩) hBl _).setCell (p := ⟨Br, 2, none⟩) hBl _).setCell (p := ⟨Br, 3, none⟩) hBl _
        have hG4 : Gbx ((((u13.setCell ⟨Br, 0, none⟩ (.int .i64 (rX : Int))).setCell ⟨Br, 1, none⟩ (.int .i64 (rY : Int))).setCell ⟨Br, 2, none⟩ (.int .i64 (rN : Int))).setCell ⟨Br, 3, none⟩ (.int .i64 (rR : Int))) Br ⟨rX, rY, rN, rR⟩ := heap_setCell_same _ Br 3 _ _ _ (heap_setCell_same _ Br 2 _ _ _ (heap_setCell_same _ Br 1 _ _ _ (heap_setCell_same u13 Br 0 _ _ _ hG0)))
        refine go_skip 17 _ rfl (by kernel_rfl) (by kernel_rfl) (by kernel_rfl) ((((u13.setCell ⟨Br, 0, none⟩ (.int .i64 (rX : Int))).setCell ⟨Br, 1, none⟩ (.int .i64 (rY : Int))).setCell ⟨Br, 2, none⟩ (.int .i64 (rN : Int))).setCell ⟨Br, 3, none⟩ (.int .i64 (rR : Int))) (exec_st4 hG0 (.tmp 8) (.tmp 44) (by kernel_rfl) (by kernel_rfl) (by kernel_rfl)) (hL4) ?_
        refine go_take 18 9 _ (.bool fl) rfl (by kernel_rfl) (by kernel_rfl) (by kernel_rfl) (by kernel_rfl) (fun _ _ _ h => h) (Or.inl ⟨by kernel_rfl, fun u hu => by kernel_rfl⟩) hL4 ?_
        simp only [Act.put, List.setIfInBounds_toArray, List.set_cons_zero, List.set_cons_succ]
        refine wpAnyH_done (by kernel_rfl) ?_ _
        refine NoPanic.normal ?_
        have hgB : W0.heap.size < Br := by have := hS2.lt; omega
        have hwB : w.heap.size < Br := Nat.lt_of_lt_of_le (Array.getElem?_eq_some_iff.1 hQ2).1 hBl
        have hQ3 := hQ2.low hL4
        have hS3 := hS2.keep hL4
        have hG3 := hG2.trans (low_grown hL4 (some W0.heap.size))
        clear hcs hxs r1 r2 hHeld hG0 hBr hQ2 hS2 hG2 HE HO HX hS1 hG1' hQ1 hL4
        generalize (((u13.setCell ⟨Br, 0, none⟩ (.int .i64 (rX : Int))).setCell ⟨Br, 1, none⟩ (.int .i64 (rY : Int))).setCell ⟨Br, 2, none⟩ (.int .i64 (rN : Int))).setCell ⟨Br, 3, none⟩ (.int .i64 (rR : Int)) = W4 at hG4 hQ3 hS3 hG3 ⊢
        obtain ⟨c0, c1, c2, c3⟩ := hQ3.cells
        obtain ⟨g0, g1, g2, g3⟩ := hG4.cells
        cases o with
        | none =>
          obtain rfl : false = fl := HRF.out.2
          have e : K1 = KF := HK4.out
          subst e
          go_wp2
          (try simp only [Exit.inBlock, Exit.then])
          refine bodyPost_ret (results_none rfl _ _ _) rfl ?_
          exact ⟨rfl, hS3, hG3⟩
        | some r =>
          obtain rfl : true = fl := HRF.out.2
          obtain rfl : r = ⟨rX, rY, rN, rR⟩ := HRF.out.1
          obtain ⟨q1, q2, q3, q4⟩ := HIn.out _ rfl
          simp only at q1 q2 q3 q4 g0 g1 g2 g3
          clear HRF HIn
          by_cases h64 : 64 < rR
          · have e3 : decide ((64 : Int) < (rR : Int)) = true := decide_eq_true (by omega)
            have e4 : decide ((rR : Int) > 64) = true := e3
            have HK5 : Hid (wrk K1 (lp A C (kp 0 (sub x A b1) (sub y C d1))) = KF) := (by
              show _ = _
              have := HK4.out
              rw [hsel, if_pos h64] at this
              exact this)
            clear HK4 h64
            go_wp2_with fail
            refine (Least_f x y W0 _ _ _ hx hy hxl hyl K1 hS3 A b1 C d1 hAb hbx hCd hdy KF HK5).mono ?_
            rintro e w4 ⟨rfl, hS4, hG5⟩
            have hG6 := hG3.trans hG5
            go_wp2
            (try simp only [Exit.inBlock, Exit.then])
            refine bodyPost_ret (results_none rfl _ _ _) rfl ?_
            exact ⟨rfl, hS4, hG6⟩
          · have e3 : decide ((64 : Int) < (rR : Int)) = false := decide_eq_false (by omega)
            have e4 : decide ((rR : Int) > 64) = false := e3
            obtain ⟨u, hu⟩ : ∃ u, A + rX = u := ⟨_, rfl⟩
            obtain ⟨v, hv⟩ : ∃ v, C + rY = v := ⟨_, rfl⟩
            obtain ⟨u2, hu2⟩ : ∃ u2, u + rN = u2 := ⟨_, rfl⟩
            obtain ⟨v2, hv2⟩ : ∃ v2, v + rN = v2 := ⟨_, rfl⟩
            have HK5 : Hid (wrk (wrk (wrk K1 (fp u v rN)) (pcs (hmid x y) x y f A u C v)) (pcs (hmid x y) x y f u2 b1 v2 d1) = KF) := (by
              show _ = _
              have := HK4.out
              rw [hsel, if_neg h64, wrk_append, wrk_append] at this
              simp only [hu, hv, hu2, hv2] at this
              exact this)
            rw [hu, hu2] at q2
            rw [hv, hv2] at q3
            have hAu : A ≤ u := by omega
            have hCv : C ≤ v := by omega
            have huu : u < u2 := by omega
            have hvv : v < v2 := by omega
            have n1 : (A : Int) + (rX : Int) = (u : Int) := by omega
            have n2 : (C : Int) + (rY : Int) = (v : Int) := by omega
            have n3 : IntKind.i64.wrap (u : Int) = (u : Int) := by rw [IntKind.wrap_i64]; omega
            have n4 : IntKind.i64.wrap (v : Int) = (v : Int) := by rw [IntKind.wrap_i64]; omega
            have m1 : (u : Int) + (rN : Int) = (u2 : Int) := by omega
            have m2 : (v : Int) + (rN : Int) = (v2 : Int) := by omega
            have m3 : IntKind.i64.wrap (u2 : Int) = (u2 : Int) := by rw [IntKind.wrap_i64]; omega
            have m4 : IntKind.i64.wrap (v2 : Int) = (v2 : Int) := by rw [IntKind.wrap_i64]; omega
            clear HK4 h64 hu hv
            go_wp2_with fail
            go_big_quiet (fail)
            have hQ4 := hQ3.low (Below.dN (Below.refl _ W4) nq)
            have hS4 := hS3.drewN nq
            have hG5 := grown_drewN hG3 nq
            have hO4 := hG4.low (Below.dN (Below.refl _ W4) nq)
            clear hQ3 hS3 hG3 hG4 c0 c1 c2 c3 g0 g1 g2 g3 n1 n2 n3 n4 e3 e4
            generalize W4.drewN nq = wf at hQ4 hS4 hG5 hO4 ⊢
            go_wp2
            go_loopw [12] (fun iv wr => ∃ i : Nat, i ≤ rN ∧ iv = .int .i64 i ∧ Ls W0 W0.heap.size x.length (wrk K1 (fp u v i)) wr ∧ w.grownBy wr (some W0.heap.size) ∧ Pbox wr w.heap.size A b1 C d1 ∧ Gbx wr Br ⟨rX, rY, rN, rR⟩) (fun iv _ => rN - (intOf iv).toNat)
            case atStart => exact ⟨0, Nat.zero_le _, rfl, hS4, hG5, hQ4, hO4⟩
            case round =>
              clear hQ4 hS4 hG5 hO4
              obtain ⟨i, hi, rfl, hS, hG, hQ, hO⟩ := hrel
              have hwr := hS.low.size
              obtain ⟨c0, c1, c2, c3⟩ := hQ.cells
              obtain ⟨g0, g1, g2, g3⟩ := hO.cells
              simp only at g0 g1 g2 g3
              by_cases hlt : i < rN
              · have hS1 := hS.set (u + i) ((v + i : Nat) : Int)
                have he : (wrk K1 (fp u v i)).set (u + i) ((v + i : Nat) : Int) = wrk K1 (fp u v (i + 1)) := by rw [fp_snoc2, wrk_append]; rfl
                rw [he] at hS1
                have hl := hS.len
                obtain ⟨s, hs⟩ : ∃ s, u + i = s := ⟨_, rfl⟩
                obtain ⟨t, ht⟩ : ∃ t, v + i = t := ⟨_, rfl⟩
                rw [hs, ht] at hS1
                have d0 := hS.at (List.getElem?_eq_getElem (i := s) (by omega))
                generalize (wrk K1 (fp u v i))[s] = z0 at d0
                have f1 := hS.own.frozenAt s
                have hgs := grown_set wr W0.heap.size s (.int .i64 (t : Int))
                have hG1 := hG.trans hgs
                have hQ1 := hQ.keep hgs (by simp; omega)
                have hO1 := hO.keep hgs (by simp; omega)
                have n1 : (u : Int) + (i : Int) = (s : Int) := by omega
                have n2 : (v : Int) + (i : Int) = (t : Int) := by omega
                have n3 : IntKind.i64.wrap (s : Int) = (s : Int) := by rw [IntKind.wrap_i64]; omega
                have n4 : IntKind.i64.wrap (t : Int) = (t : Int) := by rw [IntKind.wrap_i64]; omega
                have i3 : 0 ≤ (s : Int) := by omega
                have i4 : (s : Int) < (x.length : Int) := by omega
                clear hs ht he hS hG hQ hO hgs
                go_wp2
                go_roundw
                case rel => exact ⟨i + 1, by omega, by go_num, hS1, hG1, hQ1, hO1⟩
                case measure => simp [intOf]; omega
              · obtain rfl : i = rN := by omega
                obtain ⟨K2, hK2⟩ : ∃ K2, wrk (wrk K1 (fp u v i)) (pcs (hmid x y) x y f A u C v) = K2 := ⟨_, rfl⟩
                have HA : Hid (wrk (wrk K1 (fp u v i)) (pcs (hmid x y) x y f A u C v) = K2) := hK2
                have HB : Hid (wrk K2 (pcs (hmid x y) x y f u2 b1 v2 d1) = KF) := (by
                  show _ = _
                  have := HK5.out
                  rw [hK2] at this
                  exact this)
                clear hK2 HK5 hu2 hv2
                go_wp2_with fail
                refine (ih wr _ hS A u C v hAu (by omega) hCv (by omega) (by omega) K2 HA).mono ?_
                rintro e w5 ⟨rfl, hS5, hG5⟩
                have hG6 := hG.trans hG5
                have hQ6 := hQ.keep hG5 (by simp; omega)
                have hO6 := hO.keep hG5 (by simp; omega)
                clear hS hG hQ hO hG5 c0 c1 c2 c3 g0 g1 g2 g3
                obtain ⟨c0, c1, c2, c3⟩ := hQ6.cells
                obtain ⟨g0, g1, g2, g3⟩ := hO6.cells
                simp only at g0 g1 g2 g3
                go_wp2_with fail
                refine (ih w5 K2 hS5 u2 b1 v2 d1 (by omega) hbx (by omega) hdy (by omega) KF HB).mono ?_
                rintro e w6 ⟨rfl, hS7, hG7⟩
                have hG8 := hG6.trans hG7
                go_wp2
                go_end0
                exact ⟨rfl, hS7, hG8⟩
    · have hk2 : A = b1 ∨ C = d1 := by omega
      have e : K1 = KF := by
        have := HKF.out
        rw [if_neg hm0] at this
        exact this
      subst e
      obtain ⟨c0, c1, c2, c3⟩ := hQ2.cells
      by_cases h1 : A = b1
      · have e1 : ((A : Int) == (b1 : Int)) = true := by simp; omega
        clear hm0 hk2 h1
        go_wp2
        (try simp only [Exit.inBlock, Exit.then])
        refine bodyPost_ret (results_none rfl _ _ _) rfl ?_
        exact ⟨rfl, hS2, hG2⟩
      · have e1 : ((A : Int) == (b1 : Int)) = false := by simp; omega
        have e2 : ((C : Int) == (d1 : Int)) = true := by simp; omega
        clear hm0 hk2 h1
        go_wp2
        (try simp only [Exit.inBlock, Exit.then])
        refine bodyPost_ret (results_none rfl _ _ _) rfl ?_
        exact ⟨rfl, hS2, hG2⟩
end Go.Proofs.Yteplejpbgajecab

/- Rows of pairs in memory: two cells a pair. -/
namespace Go.Proofs.Yteplejpbgajecab
open Go.RowKit

def prV (p : Pr) : Value := .agg #[.int .i64 p.X, .int .i64 p.Y]
def prC (p : Pr) : List Value := [.int .i64 p.X, .int .i64 p.Y]
def prcells (l : List Pr) : List Value := l.flatMap prC
theorem infoPr : (Try.prog.info? 50).map (fun i => (i.zero, i.size, i.bytes)) = some (some (.agg #[.int .i64 0, .int .i64 0]), 2, 16) := by kernel_rfl
theorem infoQr : (Try.prog.info? 27).map (fun i => (i.zero, i.size, i.bytes)) = some (some (.agg #[.int .i64 0, .int .i64 0]), 2, 16) := by kernel_rfl
theorem prcells_length (l : List Pr) : (prcells l).length = l.length * 2 := by
  induction l with
  | nil => rfl
  | cons p t ih => simp only [prcells, List.flatMap_cons, List.length_append, List.length_cons, prC, List.length_nil] at ih ⊢; omega
theorem prcells_append (a b : List Pr) : prcells (a ++ b) = prcells a ++ prcells b := by simp [prcells]
theorem prcells_one (l : List Pr) : ∀ u ∈ prcells l, u.oneCell' = true := by
  intro u hu
  simp only [prcells, List.mem_flatMap] at hu
  obtain ⟨p, _, hp⟩ := hu
  simp [prC] at hp
  rcases hp with rfl | rfl <;> rfl
theorem prcells_at (l : List Pr) (k : Nat) (hk : k < l.length) : (prcells l)[2 * k]? = some (.int .i64 l[k].X) ∧ (prcells l)[2 * k + 1]? = some (.int .i64 l[k].Y) := by
  induction l generalizing k with
  | nil => simp at hk
  | cons p t ih =>
    have e : prcells (p :: t) = .int .i64 p.X :: .int .i64 p.Y :: prcells t := rfl
    cases k with
    | zero => rw [e]; exact ⟨rfl, rfl⟩
    | succ k =>
      have := ih k (by simpa using hk)
      rw [e, show 2 * (k + 1) = 2 * k + 1 + 1 by omega]
      simpa using this
theorem prcells_take (l : List Pr) (k : Nat) : prcells (l.take k) = (prcells l).take (2 * k) := by
  induction l generalizing k with
  | nil => simp [prcells]
  | cons p t ih =>
    cases k with
    | zero => simp [prcells]
    | succ k =>
      have e : prcells (p :: t) = .int .i64 p.X :: .int .i64 p.Y :: prcells t := rfl
      have e2 : prcells ((p :: t).take (k + 1)) = .int .i64 p.X :: .int .i64 p.Y :: prcells (t.take k) := rfl
      rw [e, e2, ih, show 2 * (k + 1) = 2 * k + 1 + 1 by omega]
      rfl
theorem prcells_drop (l : List Pr) (k : Nat) : prcells (l.drop k) = (prcells l).drop (2 * k) := by
  induction l generalizing k with
  | nil => simp [prcells]
  | cons p t ih =>
    cases k with
    | zero => simp
    | succ k =>
      have e : prcells (p :: t) = .int .i64 p.X :: .int .i64 p.Y :: prcells t := rfl
      rw [e, List.drop_succ_cons, ih, show 2 * (k + 1) = 2 * k + 1 + 1 by omega]
      rfl
def HPr (w : World) (v : Value) (l : List Pr) : Prop := Holds w v l.length (prcells l)
theorem HPr.keep {w w' : World} {v : Value} {l : List Pr} (h : HPr w v l) {N : Nat} (hk : Below N w w') (hN : w.heap.size ≤ N) : HPr w' v l := Holds.keep h fun k hk' => hk.block k (by omega)
theorem HPr.at {w : World} {ao : Option Addr} {n c : Nat} {l : List Pr} (h : HPr w (.slice ao n c) l) (h0 : 0 < l.length) : ∃ b off, ao = some ⟨b, off, none⟩ ∧ b < w.heap.size ∧
    ∀ k (hk : k < l.length), w.cell? ⟨b, off + k * 2, none⟩ = some (.int .i64 l[k].X) ∧ w.cell? ⟨b, off + k * 2 + 1, none⟩ = some (.int .i64 l[k].Y) := by
  obtain ⟨b, off, c', hv, hb, hc⟩ := Holds.at h (by rw [prcells_length]; omega)
  cases hv
  refine ⟨b, off, rfl, hb, fun k hk => ?_⟩
  obtain ⟨h1, h2⟩ := prcells_at l k hk
  obtain ⟨l1, e1⟩ := List.getElem?_eq_some_iff.1 h1
  obtain ⟨l2, e2⟩ := List.getElem?_eq_some_iff.1 h2
  have g1 := hc _ l1
  have g2 := hc _ l2
  rw [e1] at g1
  rw [e2] at g2
  rw [show k * 2 = 2 * k by omega, Nat.add_assoc]
  exact ⟨g1, g2⟩
end Go.Proofs.Yteplejpbgajecab

/- What an argument of type []redlineref07.Pair holds. -/
namespace Go.Proofs.Yteplejpbgajecab
open Go.ChangeShapes Go.WideShapes Go.ChangeAt Go.RowKit

theorem cellsQr : Try.prog.cellsOf 27 = 2 := by kernel_rfl
/-- a pair of numbers that an int holds -/
def wPr (p : Pr) : Prop := w64 p.X ∧ w64 p.Y

set_option maxRecDepth 10000 in
/-- the pairs that an argument holds -/
theorem open_prs {H : Type} {enc : TypeId × Value → H} {W : World} {fuel : Nat} {ao : Option Addr} {len cap : Nat} {d : DataW H} {p : List MemPlace}
    (h : DataW.trod enc Try.prog W 0 (fun _ => true) true fuel 24 [.slice ao len cap] = some (d, p)) :
    ∃ l : List Pr, HPr W (.slice ao len cap) l ∧ l.length ≤ Rows.uptoBulk d ∧ ∀ c ∈ l, wPr c := by
  rcases Go.Deep.open_slice Try.underlying24 h with ⟨hcs, hx⟩ | ⟨a, l, c, m, n, D, Pl, hcs, _, hl, hm, hmm, hx, hel⟩
  · simp at hcs
    obtain ⟨rfl, rfl, rfl⟩ := hcs
    exact ⟨[], .inl ⟨rfl, rfl, rfl⟩, by simp, by simp⟩
  · simp at hcs
    obtain ⟨rfl, rfl, rfl⟩ := hcs
    simp only [Prod.mk.injEq] at hx
    obtain ⟨rfl, _⟩ := hx
    have hlm : len ≤ m := by rw [hmm]; split <;> omega
    have each : ∀ i, i < len → ∃ c : Pr, wPr c ∧ W.cell? (a.add (i * 2)) = some (.int .i64 c.X) ∧ W.cell? (a.add (i * 2 + 1)) = some (.int .i64 c.Y) ∧ 1 ≤ Rows.uptoBulk (D i) := by
      intro i hi
      obtain ⟨cs', h1, h2⟩ := hel i (by omega)
      rw [cellsQr] at h1
      obtain ⟨_, hlen, hcell⟩ := World.cells?_some h1
      obtain ⟨xs, k, hk, hxy, _, hxl, hf⟩ := DataW.trod_struct Try.underlying27 h2
      match xs, hxl, cs', hlen with
      | [y0, y1], _, [v0, v1], _ =>
        have g0 := hf 0 _ rfl
        have g1 := hf 1 _ rfl
        simp [cellsInt] at g0 g1
        obtain ⟨z0, e0, _, w0⟩ := DataW.trod_int Try.underlying3 g0
        obtain ⟨z1, e1, _, w1⟩ := DataW.trod_int Try.underlying3 g1
        cases e0
        cases e1
        have c0 := hcell 0 (by omega)
        have c1 := hcell 1 (by omega)
        rw [Go.Deep.add_add] at c0 c1
        simp only [Prod.mk.injEq] at hxy
        refine ⟨⟨z0, z1⟩, ⟨w64_of w0, w64_of w1⟩, by simpa using c0, by simpa using c1, ?_⟩
        rw [hxy.1, Rows.uptoBulk]
        omega
    have : Inhabited Pr := ⟨⟨0, 0⟩⟩
    obtain ⟨f, hf⟩ := Go.Deep.choose_lt each
    have hlen : ((List.range len).map f).length = len := by simp
    refine ⟨(List.range len).map f, .inr ⟨a, cap, by rw [hlen], by rw [hlen]; exact hl, fun j u hj => ?_⟩, ?_, ?_⟩
    · have hj' : j < len * 2 := by
        have := (List.getElem?_eq_some_iff.1 hj).1
        rw [prcells_length, hlen] at this
        exact this
      obtain ⟨h0, h1⟩ := prcells_at ((List.range len).map f) (j / 2) (by rw [hlen]; omega)
      obtain ⟨_, g0, g1, _⟩ := hf (j / 2) (by omega)
      simp only [List.getElem_map, List.getElem_range] at h0 h1
      rcases (by omega : j = 2 * (j / 2) ∨ j = 2 * (j / 2) + 1) with e | e
      · rw [e, h0] at hj
        rw [e, Nat.mul_comm, g0, hj]
      · rw [e, h1] at hj
        rw [e, Nat.mul_comm, g1, hj]
    · rw [hlen, Rows.uptoBulk]
      have := bulk_range D len fun i hi => (hf i hi).2.2.2
      omega
    · intro c hc
      simp only [List.mem_map, List.mem_range] at hc
      obtain ⟨i, hi, rfl⟩ := hc
      exact (hf i hi).1
end Go.Proofs.Yteplejpbgajecab

/- The reference's Diff of the layer histogram, walked. -/
namespace Go.Proofs.Yteplejpbgajecab
open Go.RowKit

set_option maxRecDepth 10000 in
set_option maxHeartbeats 2000000 in
theorem rhiDiff_f (x y : List Int) (vx vy : Value) (w : World) (hx : HI w vx x) (hy : HI w vy y) (hxl : x.length ≤ 4096) (hyl : y.length ≤ 4096) (L : List Ch) (hL : Hid (mkL (hKeep x y) y.length = L)) :
    Calls Try.prog 11 #[vx, vy] w fun e w' => ∃ v', e = .returned (.tuple #[v', .int .i64 0]) ∧ HCh w' v' L ∧ Below w.heap.size w w' := by
  obtain ⟨xo, xc, rfl⟩ := Holds.form hx
  obtain ⟨yo, yc, rfl⟩ := Holds.form hy
  obtain ⟨KF, hKF⟩ : ∃ KF, hKeep x y = KF := ⟨_, rfl⟩
  have HK : Hid (Kpt x y KF) := (by rw [← hKF]; exact hKeep_kpt x y)
  have HF : Hid (wrk (List.replicate x.length (-1)) (pcs (hmid x y) x y (x.length + 1) 0 x.length 0 y.length) = KF) := hKF
  rw [hKF] at hL
  clear hKF
  have e1 : decide ((4096 : Int) < (x.length : Int)) = false := decide_eq_false (by omega)
  have e2 : decide ((4096 : Int) < (y.length : Int)) = false := decide_eq_false (by omega)
  go_enter Try.func11, Try.ntmps11
  go_wp2_with fail
  refine (None_f x.length w (by omega)).mono ?_
  rintro e w1 ⟨rfl, hO1, hB1⟩
  have hS1 : Ls w w.heap.size x.length (List.replicate x.length (-1)) w1 := ⟨hB1, hO1⟩
  clear hO1 hB1
  go_wp2_with fail
  refine (rhpiece_f x y w _ _ hx hy hxl hyl (x.length + 1) w1 _ hS1 0 x.length 0 y.length (Nat.zero_le _) (Nat.le_refl _) (Nat.zero_le _) (Nat.le_refl _) (by omega) KF HF).mono ?_
  rintro e w2 ⟨rfl, hS2, hG2⟩
  have hKl := HK.out.len
  have hv2 : HI w2 (.slice (some ⟨w.heap.size, 0, none⟩) x.length x.length) KF := by
    unfold HI
    rw [hKl]
    exact holds_of hS2.own
  have HKL : Hid (KF.length = x.length) := hKl
  clear hKl
  go_wp2_with fail
  refine (rMake_f KF y.length L _ w2 hv2 (by have := HKL.out; omega) HK.out.vk (by omega) (by omega) hL).mono ?_
  rintro e w3 ⟨v3, rfl, hv3, hB3⟩
  have hB := hS2.low.trans (hB3.mono hS2.low.size)
  clear hv2
  go_wp2
  go_ret2
  exact ⟨_, rfl, hv3, hB⟩
end Go.Proofs.Yteplejpbgajecab
