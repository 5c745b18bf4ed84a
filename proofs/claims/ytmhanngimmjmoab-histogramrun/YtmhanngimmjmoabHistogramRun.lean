/-
  For every two rows of numbers the law HistogramRun returns true and leaves its arguments as they were: the run that histogram.Best tells is the same in both rows, as long as can be, and as rare as is said, and no member that both rows have is rarer. No condition.
-/
import Derived.Test.YtmhanngimmjmoabPart7
import Derived.Deep.CutRange
namespace Go.Proofs.Ytmhanngimmjmoab.histogramRun
open Go.ChangeShapes Go.WideShapes Go.ChangeAt Go.RowKit
attribute [local simp] low_drew

theorem exec_lt {u : World} {p q : Int} {b : Bool} (h : decide (p < q) = b) {op : Oper} (x l : Operand) (ho : op.op = .binOp .lss 3 x l 3) {ev : Operand → Value} (hx : ev x = .int .i64 p) (hl : ev l = .int .i64 q) :
    (execOp ev op).run Try.prog u = .ok (.value (.bool b)) u := by
  subst h
  simp only [execOp, ho, hx, hl]
  go_simp
theorem exec_gt {u : World} {p q : Int} {b : Bool} (h : decide (q < p) = b) {op : Oper} (x l : Operand) (ho : op.op = .binOp .gtr 3 x l 3) {ev : Operand → Value} (hx : ev x = .int .i64 p) (hl : ev l = .int .i64 q) :
    (execOp ev op).run Try.prog u = .ok (.value (.bool b)) u := by
  subst h
  simp only [execOp, ho, hx, hl]
  go_simp
theorem exec_ne {u : World} {p : Int} {op : Oper} (x l : Operand) (ho : op.op = .binOp .neq 3 x l 3) {ev : Operand → Value} (hx : ev x = .int .i64 p) (hl : ev l = .int .i64 p) :
    (execOp ev op).run Try.prog u = .ok (.value (.bool false)) u := by
  simp only [execOp, ho, hx, hl]
  go_simp
theorem exec_len {u : World} {ao : Option Addr} {n c : Nat} {op : Oper} (x : Operand) (ho : op.op = .call { callee := .builtin .len, args := #[x], argTypes := #[22] }) {ev : Operand → Value} (hx : ev x = .slice ao n c) :
    (execOp ev op).run Try.prog u = .ok (.value (.int .i64 (n : Int))) u := by
  simp only [execOp, ho]
  go_simp
theorem exec_slB2 {u : World} {ao ao' : Option Addr} {n cap l h n' c' : Nat} (hr : ∀ u : World, (Instr.slice 22 (.slice ao n cap) (some (.int .i64 (l : Int))) (some (.int .i64 (h : Int))) none).run Try.prog u = .ok (.slice ao' n' c') u) {op : Oper} (x y z : Operand) (ho : op.op = .slice 22 x (some y) (some z) none) {ev : Operand → Value} (hx : ev x = .slice ao n cap) (hy : ev y = .int .i64 (l : Int)) (hz : ev z = .int .i64 (h : Int)) :
    (execOp ev op).run Try.prog u = .ok (.value (.slice ao' n' c')) u := by
  have h2 := run_sliceAt_slice (P := Try.prog) (w := u) 22 (.slice ao n cap) (some (.int .i64 (l : Int))) (some (.int .i64 (h : Int))) none (by kernel_rfl)
  simp only [execOp, ho, hx, hy, hz, Option.map_some, Option.map_none, Sem.run_bind, h2, hr u, Result.andThen_ok, Sem.run_pure]
theorem same_held {x y : List Int} {vx vy : Value} {W u : World} (hx : HI u vx x) (hy : HI u vy y) (hxl : x.length ≤ 1048576) (he : Hid (x = y)) (hL : Low W u) :
    Calls Try.prog 9 (#[vx, vy] ++ #[]) u fun e w' => ∃ v', e = .returned v' ∧ Low W w' ∧ v' = .bool true := by
  refine (SameI_dec vx vy x y u hx hy hxl true (by show true = _; rw [decide_eq_true he.out])).mono ?_
  rintro e w' ⟨rfl, hb⟩
  exact ⟨_, rfl, Below.trans hL (hb.mono (Below.size hL)), rfl⟩
theorem take_count (x : List Int) (c : Int) (k n : Nat) (hk : k < x.length) (h : (x.take k).count c = n) : (x.take (k + 1)).count c = if x[k] = c then n + 1 else n := by
  rw [List.take_add_one, List.getElem?_eq_getElem hk, List.count_append, h]
  by_cases e : x[k] = c <;> simp [e]
theorem take_thr (x y : List Int) (i k : Nat) (t : Bool) (hk : k < y.length) (h : thr x (y.take k) i = t) : thr x (y.take (k + 1)) i = (t || decide (x[i]? = some y[k])) := by
  unfold thr at h ⊢
  rw [List.take_add_one, List.getElem?_eq_getElem hk, List.any_append, h]
  simp

set_option maxRecDepth 10000 in
set_option maxHeartbeats 8000000 in
theorem walk (x y : List Int) (vx vy : Value) (w : World) (hwx : ∀ z ∈ x, w64 z) (hwy : ∀ z ∈ y, w64 z) (hx : HI w vx x) (hy : HI w vy y) :
    Calls Try.prog 4 #[vx, vy] w fun e w' => e = .returned (.bool true) ∧ Below w.heap.size w w' := by
  obtain ⟨xo, xc, rfl⟩ := Holds.form hx
  obtain ⟨yo, yc, rfl⟩ := Holds.form hy
  have HWX : Hid (∀ z ∈ x, w64 z) := hwx
  have HWY : Hid (∀ z ∈ y, w64 z) := hwy
  clear hwx hwy
  go_enter Try.func4, Try.ntmps4
  go_wp2_with fail
  refine (hiWorks_any w).mono ?_
  rintro e w0 ⟨rfl, hB0⟩
  by_cases h1 : 200 < x.length
  · have e1 : decide ((200 : Int) < (x.length : Int)) = true := decide_eq_true (by omega)
    go_wp2
    go_ret
    exact ⟨rfl, hB0⟩
  have e1 : decide ((200 : Int) < (x.length : Int)) = false := decide_eq_false (by omega)
  by_cases h2 : 200 < y.length
  · have e2 : decide ((200 : Int) < (y.length : Int)) = true := decide_eq_true (by omega)
    go_wp2
    go_ret
    exact ⟨rfl, hB0⟩
  have e2 : decide ((200 : Int) < (y.length : Int)) = false := decide_eq_false (by omega)
  have hx0 := HI.keep hx hB0 (Nat.le_refl _)
  have hy0 := HI.keep hy hB0 (Nat.le_refl _)
  obtain ⟨o, ho⟩ : ∃ o, best x y = o := ⟨_, rfl⟩
  have HO : Hid (best x y = o) := ho
  clear ho
  go_wp2_with fail
  refine (Best_f x y _ _ w0 hx0 hy0 (by omega) (by omega) HWX.out HWY.out o HO).mono ?_
  rintro e w1 ⟨rfl, hB1⟩
  have hB01 := hB0.trans (hB1.mono hB0.size)
  clear hB1 hB0 hx0 hy0 HWX HWY
  unfold hrV
  obtain ⟨r, hr⟩ : ∃ r, o.getD ⟨0, 0, 0, 0⟩ = r := ⟨_, rfl⟩
  obtain ⟨fl, hfl⟩ : ∃ fl, o.isSome = fl := ⟨_, rfl⟩
  have HRF : Hid (o.getD ⟨0, 0, 0, 0⟩ = r ∧ o.isSome = fl) := ⟨hr, hfl⟩
  rw [hr, hfl]
  clear hr hfl
  obtain ⟨rX, rY, rN, rR⟩ := r
  have hH : Hbx (w1.alloc (.cells #[.int .i64 (rX : Int), .int .i64 (rY : Int), .int .i64 (rN : Int), .int .i64 (rR : Int)] 34)) w1.heap.size ⟨rX, rY, rN, rR⟩ := Hbx.new w1 ⟨rX, rY, rN, rR⟩
  have hBa := hB01.alloc hB01.size (.cells #[.int .i64 (rX : Int), .int .i64 (rY : Int), .int .i64 (rN : Int), .int .i64 (rR : Int)] 34)
  obtain ⟨L0, hL0⟩ : ∃ L0, x.length + 1 = L0 := ⟨_, rfl⟩
  have n1 : (x.length : Int) + 1 = (L0 : Int) := by omega
  have n2 : IntKind.i64.wrap (L0 : Int) = (L0 : Int) := by rw [IntKind.wrap_i64]; omega
  clear hB01
  go_wp2
  generalize w1.alloc (.cells #[.int .i64 (rX : Int), .int .i64 (rY : Int), .int .i64 (rN : Int), .int .i64 (rR : Int)] 34) = W2 at hH hBa ⊢
  have hs2 := hBa.size
  go_loopw [7, 8] (fun lv iv wr => ∃ i l : Nat, i ≤ x.length ∧ l ≤ x.length + 1 ∧ lv = .int .i64 l ∧ iv = .int .i64 i ∧ Below W2.heap.size W2 wr ∧ Hid (lst x y i = l)) (fun _ iv _ => x.length - (intOf iv).toNat)
  case atStart => exact ⟨0, L0, Nat.zero_le _, by omega, rfl, rfl, Below.refl _ _, hL0⟩
  case round =>
    clear n1 n2
    obtain ⟨i, l, hi, hll, rfl, rfl, hBr, HL⟩ := hrel
    have hB0r := hBa.trans (hBr.mono hBa.size)
    by_cases hlt : i < x.length
    · have e3 : decide ((i : Int) < (x.length : Int)) = true := decide_eq_true (by omega)
      obtain ⟨xb, xf, rfl, _, _⟩ := HI.at (HI.keep hx hB0r (Nat.le_refl _)) (by omega)
      obtain ⟨c, hc⟩ : ∃ c, x[i] = c := ⟨_, rfl⟩
      have HC : Hid (x[i]? = some c) := (by show _ = _; rw [List.getElem?_eq_getElem hlt, hc])
      clear hc
      have i1 : 0 ≤ (i : Int) := by omega
      have i2 : (i : Int) < (x.length : Int) := by omega
      clear hH
      go_wp2
      go_loopw [9, 11] (fun nv kv wz => ∃ k n : Nat, k ≤ x.length ∧ n ≤ k ∧ nv = .int .i64 n ∧ kv = .int .i64 k ∧ Below W2.heap.size W2 wz ∧ Hid ((x.take k).count c = n)) (fun _ kv _ => x.length - (intOf kv).toNat)
      case atStart => exact ⟨0, 0, Nat.zero_le _, Nat.le_refl _, rfl, rfl, hBr, rfl⟩
      case round =>
        clear hBr hB0r
        obtain ⟨k, n, hk, hnk, rfl, rfl, hBz, HN⟩ := hrel
        have hB0z := hBa.trans (hBz.mono hBa.size)
        by_cases hkl : k < x.length
        · have e4 : decide ((k : Int) < (x.length : Int)) = true := decide_eq_true (by omega)
          obtain ⟨xb', xf', hxe, _, hcx⟩ := HI.at (HI.keep hx hB0z (Nat.le_refl _)) (by omega)
          cases hxe
          have x0 := hcx k (by omega)
          have x1 := hcx i (by omega)
          have hxi : x[i] = c := by
            have := HC.out
            rw [List.getElem?_eq_getElem hlt] at this
            exact Option.some.inj this
          rw [hxi] at x1
          obtain ⟨zk, hzk⟩ : ∃ z, x[k] = z := ⟨_, rfl⟩
          have HN2 : Hid ((x.take (k + 1)).count c = if zk = c then n + 1 else n) := (by show _ = _; rw [← hzk]; exact take_count x c k n hkl HN.out)
          rw [hzk] at x0
          obtain ⟨q, hq⟩ : ∃ q, decide (zk = c) = q := ⟨_, rfl⟩
          have e5 : (zk == c) = q := by rw [← hq]; by_cases h : zk = c <;> simp [h]
          have HQ : Hid (decide (zk = c) = q) := hq
          have i3 : 0 ≤ (k : Int) := by omega
          have i4 : (k : Int) < (x.length : Int) := by omega
          clear hcx hxi hzk HN hq
          go_wp2_with fail
          go_big_quiet (fail)
          have hBq := Below.dN hBz nq
          clear hBz hB0z x0 x1
          generalize wr.drewN nq = wq at hBq ⊢
          cases q with
          | true =>
            have HN3 : Hid ((x.take (k + 1)).count c = n + 1) := (by have := HN2.out; rw [if_pos (of_decide_eq_true HQ.out)] at this; exact this)
            clear HN2 HQ
            go_wp2
            go_roundw
            case rel => exact ⟨k + 1, n + 1, by omega, by omega, by go_num, by go_num, hBq, HN3⟩
            case measure => simp [intOf]; omega
          | false =>
            have HN3 : Hid ((x.take (k + 1)).count c = n) := (by have := HN2.out; rw [if_neg (of_decide_eq_false HQ.out)] at this; exact this)
            clear HN2 HQ
            go_wp2
            go_roundw
            case rel => exact ⟨k + 1, n, by omega, by omega, by go_num, by go_num, hBq, HN3⟩
            case measure => simp [intOf]; omega
        · obtain rfl : k = x.length := by omega
          have e4 : decide ((x.length : Int) < (x.length : Int)) = false := decide_eq_false (by omega)
          have HCn : Hid (cnt x i = n) := (by
            show _ = _
            rw [cnt_at HC.out, ← HN.out, List.take_length])
          clear HN hkl hk
          go_wp2
          go_loopw [10, 12] (fun tv kv wu => ∃ (k : Nat) (t : Bool), k ≤ y.length ∧ tv = .bool t ∧ kv = .int .i64 k ∧ Below W2.heap.size W2 wu ∧ Hid (thr x (y.take k) i = t)) (fun _ kv _ => y.length - (intOf kv).toNat)
          case atStart => exact ⟨0, false, Nat.zero_le _, rfl, rfl, hBz, rfl⟩
          case round =>
            clear hBz hB0z e4
            obtain ⟨k, t, hk, rfl, rfl, hBu, HT⟩ := hrel
            have hB0u := hBa.trans (hBu.mono hBa.size)
            by_cases hkl : k < y.length
            · have e4 : decide ((k : Int) < (y.length : Int)) = true := decide_eq_true (by omega)
              have HT2 : Hid (thr x (y.take (k + 1)) i = (t || decide (x[i]? = some y[k]))) := take_thr x y i k t hkl HT.out
              cases t with
              | true =>
                have HT3 : Hid (thr x (y.take (k + 1)) i = true) := (by have := HT2.out; rw [Bool.true_or] at this; exact this)
                clear HT HT2
                go_wp2_with fail
                go_big_quiet (fail)
                have hBq := Below.dN hBu nq
                clear hBu hB0u
                generalize wr.drewN nq = wq at hBq ⊢
                go_wp2
                go_roundw
                case rel => exact ⟨k + 1, true, by omega, rfl, by go_num, hBq, HT3⟩
                case measure => simp [intOf]; omega
              | false =>
                obtain ⟨xb', xf', hxe, _, hcx⟩ := HI.at (HI.keep hx hB0u (Nat.le_refl _)) (by omega)
                cases hxe
                obtain ⟨yb, yf, rfl, _, hcy⟩ := HI.at (HI.keep hy hB0u (Nat.le_refl _)) (by omega)
                have x1 := hcx i (by omega)
                have y0 := hcy k (by omega)
                have hxi : x[i] = c := by
                  have := HC.out
                  rw [List.getElem?_eq_getElem hlt] at this
                  exact Option.some.inj this
                rw [hxi] at x1
                obtain ⟨zk, hzk⟩ : ∃ z, y[k] = z := ⟨_, rfl⟩
                rw [hzk] at y0
                obtain ⟨q, hq⟩ : ∃ q, decide (c = zk) = q := ⟨_, rfl⟩
                have e5 : (zk == c) = q := by
                  rw [← hq]
                  by_cases h : zk = c
                  · simp [h]
                  · rw [beq_eq_false_iff_ne.2 h, decide_eq_false (fun q => h q.symm)]
                have HT3 : Hid (thr x (y.take (k + 1)) i = q) := (by
                  show _ = _
                  rw [HT2.out, Bool.false_or, HC.out, hzk, ← hq]
                  simp)
                have i3 : 0 ≤ (k : Int) := by omega
                have i4 : (k : Int) < (y.length : Int) := by omega
                clear hcx hcy hxi hzk HT HT2 hq
                go_wp2_with fail
                go_big_quiet (fail)
                have hBq := Below.dN hBu nq
                clear hBu hB0u x1 y0
                generalize wr.drewN nq = wq at hBq ⊢
                go_wp2
                go_roundw
                case rel => exact ⟨k + 1, q, by omega, rfl, by go_num, hBq, HT3⟩
                case measure => simp [intOf]; omega
            · obtain rfl : k = y.length := by omega
              have e4 : decide ((y.length : Int) < (y.length : Int)) = false := decide_eq_false (by omega)
              have HT2 : Hid (thr x y i = t) := (by have := HT.out; rw [List.take_length] at this; exact this)
              clear HT
              cases t with
              | true =>
                have HL2 : Hid (lst x y (i + 1) = min l n) := (by show _ = _; rw [lst, if_pos HT2.out, HL.out, HCn.out])
                obtain ⟨mi, hmi⟩ : ∃ mi, min l n = mi := ⟨_, rfl⟩
                rw [hmi] at HL2
                have hmin : (if n < l then (n : Int) else (l : Int)) = (mi : Int) := by rw [← hmi]; split <;> omega
                have hmil : mi ≤ x.length + 1 := by omega
                clear HT2 HCn HL
                go_wp2
                go_roundw
                case rel => exact ⟨i + 1, mi, by omega, hmil, by first | rfl | (go_num; done) | (simp only [hmin]), by go_num, hBu, HL2⟩
                case measure => simp [intOf]; omega
              | false =>
                have HL2 : Hid (lst x y (i + 1) = l) := (by show _ = _; rw [lst, if_neg (by rw [HT2.out]; exact Bool.false_ne_true), HL.out])
                clear HT2 HCn HL
                go_wp2
                go_roundw
                case rel => exact ⟨i + 1, l, by omega, hll, rfl, by go_num, hBu, HL2⟩
                case measure => simp [intOf]; omega
    · obtain rfl : i = x.length := by omega
      have e3 : decide ((x.length : Int) < (x.length : Int)) = false := decide_eq_false (by omega)
      have hHr := hH.low hBr
      clear hH hlt
      obtain ⟨c0, c1, c2, c3⟩ := hHr.cells
      simp only at c0 c1 c2 c3
      cases o with
      | none =>
        obtain rfl : false = fl := HRF.out.2
        have hz : (⟨0, 0, 0, 0⟩ : Hr) = ⟨rX, rY, rN, rR⟩ := HRF.out.1
        cases hz
        have hl : l = x.length + 1 := by rw [← HL.out, lst_none HO.out]
        have e6 : decide ((x.length : Int) < (l : Int)) = true := decide_eq_true (by omega)
        have e7 : x.length < l := by omega
        have e8 : decide (x.length < l) = true := decide_eq_true e7
        simp only [Int.cast_ofNat_Int] at c0 c1 c2 c3
        clear HRF HO HL hl
        go_wp2
        go_ret
        exact ⟨ret_bool (by simp), hB0r⟩
      | some r =>
        obtain rfl : true = fl := HRF.out.2
        obtain rfl : r = ⟨rX, rY, rN, rR⟩ := HRF.out.1
        obtain ⟨t1, t2, t3, t4, t5, t6⟩ := told HO.out
        simp only at t1 t2 t3 t4 t5 t6
        obtain rfl : rR = l := by rw [← HL.out, lst_some HO.out]
        clear HRF HO HL
        have hcs : ∀ u : World, Low wr u → u.cell? ⟨w1.heap.size, 0, none⟩ = some (.int .i64 (rX : Int)) ∧ u.cell? ⟨w1.heap.size, 1, none⟩ = some (.int .i64 (rY : Int)) ∧ u.cell? ⟨w1.heap.size, 2, none⟩ = some (.int .i64 (rN : Int)) ∧ u.cell? ⟨w1.heap.size, 3, none⟩ = some (.int .i64 (rR : Int)) := fun u hu => (hHr.low hu).cells
        obtain ⟨ux, hux⟩ : ∃ u, rX + rN = u := ⟨_, rfl⟩
        obtain ⟨uy, huy⟩ : ∃ u, rY + rN = u := ⟨_, rfl⟩
        obtain ⟨dx, hdx⟩ : ∃ u, x.length - rN = u := ⟨_, rfl⟩
        obtain ⟨dy, hdy⟩ : ∃ u, y.length - rN = u := ⟨_, rfl⟩
        rw [hux] at t2 t4 t6
        rw [huy] at t3 t4 t6
        have hF0 : decide ((rX : Int) < 0) = false := decide_eq_false (by omega)
        have hF1 : decide ((rY : Int) < 0) = false := decide_eq_false (by omega)
        have hF2 : decide ((rN : Int) < 1) = false := decide_eq_false (by omega)
        have hF3 : decide ((dx : Int) < (rX : Int)) = false := decide_eq_false (by omega)
        have hF4 : decide ((dy : Int) < (rY : Int)) = false := decide_eq_false (by omega)
        have hD0 : IntKind.i64.wrap ((x.length : Int) - (rN : Int)) = (dx : Int) := by rw [IntKind.wrap_i64]; omega
        have hD1 : IntKind.i64.wrap ((y.length : Int) - (rN : Int)) = (dy : Int) := by rw [IntKind.wrap_i64]; omega
        have hA0 : IntKind.i64.wrap ((rX : Int) + (rN : Int)) = (ux : Int) := by rw [IntKind.wrap_i64]; omega
        have hA1 : IntKind.i64.wrap ((rY : Int) + (rN : Int)) = (uy : Int) := by rw [IntKind.wrap_i64]; omega
        have r1 := run_slB xo x.length xc rX ux (by omega) (by omega) (hold_cap hx)
        have r2 := run_slB yo y.length yc rY uy (by omega) (by omega) (hold_cap hy)
        rw [show ux - rX = rN by omega] at r1
        rw [show uy - rY = rN by omega] at r2
        obtain ⟨X, hX⟩ : ∃ X, sub x rX ux = X := ⟨_, rfl⟩
        obtain ⟨Y, hY⟩ : ∃ Y, sub y rY uy = Y := ⟨_, rfl⟩
        have hXl : X.length = rN := by rw [← hX, sub_length x rX ux t2]; omega
        have hYl : Y.length = rN := by rw [← hY, sub_length y rY uy t3]; omega
        have hxs : ∀ u : World, Low wr u → HI u (.slice (slF xo xc rX) rN (xc - rX)) X ∧ HI u (.slice (slF yo yc rY) rN (yc - rY)) Y := fun u hu => by
          have hlow : Below w.heap.size w u := hB0r.trans (Below.mono hu hB0r.size)
          have h1 := hold_sub (HI.keep hx hlow (Nat.le_refl _)) (show rX ≤ ux by omega) t2
          have h2 := hold_sub (HI.keep hy hlow (Nat.le_refl _)) (show rY ≤ uy by omega) t3
          unfold HI
          rw [hXl, hYl]
          rw [hX, show ux - rX = rN by omega] at h1
          rw [hY, show uy - rY = rN by omega] at h2
          exact ⟨h1, h2⟩
        have HXY : Hid (X = Y) := (by show _ = _; rw [← hX, ← hY]; exact t4)
        have HXl : Hid (X.length ≤ 1048576) := (by show _ ≤ _; omega)
        generalize slF xo xc rX = xo2 at r1 hxs
        generalize slF yo yc rY = yo2 at r2 hxs
        generalize xc - rX = xc2 at r1 hxs
        generalize yc - rY = yc2 at r2 hxs
        have HFst : Hid (¬ (0 < rX ∧ 0 < rY ∧ x[rX - 1]? = y[rY - 1]?)) := t5
        have HLst : Hid (¬ (ux < x.length ∧ uy < y.length ∧ x[ux]? = y[uy]?)) := t6
        clear hX hY hXl hYl t4 t5 t6 c0 c1 c2 c3 e1 e2
        go_wp2_with fail
        refine wp_region_noPanic ?_
        refine wp_region_held_drew (S := fun u => Low wr u) (by kernel_rfl) (Below.dN (Below.refl _ wr) 1) (fun hHeld => ?_)
        refine go_take 0 90 _ (.pointer (some ⟨w1.heap.size, 0, none⟩)) rfl (by kernel_rfl) (by kernel_rfl) (by kernel_rfl) (by kernel_rfl) (fun _ _ _ h => h) (Or.inl ⟨by kernel_rfl, fun u hu => by kernel_rfl⟩) hHeld ?_
        simp only [Act.put, List.setIfInBounds_toArray, List.set_cons_zero, List.set_cons_succ]
        refine go_take 1 91 _ (.int .i64 (rX : Int)) rfl (by kernel_rfl) (by kernel_rfl) (by kernel_rfl) (by kernel_rfl) (fun _ _ _ h => h) (Or.inl ⟨by kernel_rfl, fun u hu => load_int (hcs u hu).1 (.tmp 90) (by kernel_rfl) (by kernel_rfl)⟩) hHeld ?_
        simp only [Act.put, List.setIfInBounds_toArray, List.set_cons_zero, List.set_cons_succ]
        refine go_take 2 92 _ (.bool false) rfl (by kernel_rfl) (by kernel_rfl) (by kernel_rfl) (by kernel_rfl) (fun _ _ _ h => h) (Or.inl ⟨by kernel_rfl, fun u hu => exec_lt hF0 (.tmp 91) (.const (.int .i64 0)) (by kernel_rfl) (by kernel_rfl) (by kernel_rfl)⟩) hHeld ?_
        simp only [Act.put, List.setIfInBounds_toArray, List.set_cons_zero, List.set_cons_succ]
        refine go_take 3 93 _ (.bool false) rfl (by kernel_rfl) (by kernel_rfl) (by kernel_rfl) (by kernel_rfl) (fun _ _ _ h => h) (Or.inl ⟨by kernel_rfl, fun u hu => by kernel_rfl⟩) hHeld ?_
        simp only [Act.put, List.setIfInBounds_toArray, List.set_cons_zero, List.set_cons_succ]
        refine go_take 4 94 _ (.pointer (some ⟨w1.heap.size, 1, none⟩)) rfl (by kernel_rfl) (by kernel_rfl) (by kernel_rfl) (by kernel_rfl) (fun _ _ _ h => h) (Or.inl ⟨by kernel_rfl, fun u hu => by kernel_rfl⟩) hHeld ?_
        simp only [Act.put, List.setIfInBounds_toArray, List.set_cons_zero, List.set_cons_succ]
        refine go_take 5 95 _ (.int .i64 (rY : Int)) rfl (by kernel_rfl) (by kernel_rfl) (by kernel_rfl) (by kernel_rfl) (fun _ _ _ h => h) (Or.inl ⟨by kernel_rfl, fun u hu => load_int (hcs u hu).2.1 (.tmp 94) (by kernel_rfl) (by kernel_rfl)⟩) hHeld ?_
        simp only [Act.put, List.setIfInBounds_toArray, List.set_cons_zero, List.set_cons_succ]
        refine go_take 6 96 _ (.bool false) rfl (by kernel_rfl) (by kernel_rfl) (by kernel_rfl) (by kernel_rfl) (fun _ _ _ h => h) (Or.inl ⟨by kernel_rfl, fun u hu => exec_lt hF1 (.tmp 95) (.const (.int .i64 0)) (by kernel_rfl) (by kernel_rfl) (by kernel_rfl)⟩) hHeld ?_
        simp only [Act.put, List.setIfInBounds_toArray, List.set_cons_zero, List.set_cons_succ]
        refine go_take 7 97 _ (.bool false) rfl (by kernel_rfl) (by kernel_rfl) (by kernel_rfl) (by kernel_rfl) (fun _ _ _ h => h) (Or.inl ⟨by kernel_rfl, fun u hu => by kernel_rfl⟩) hHeld ?_
        simp only [Act.put, List.setIfInBounds_toArray, List.set_cons_zero, List.set_cons_succ]
        refine go_take 8 98 _ (.bool false) rfl (by kernel_rfl) (by kernel_rfl) (by kernel_rfl) (by kernel_rfl) (fun _ _ _ h => h) (Or.inl ⟨by kernel_rfl, fun u hu => by kernel_rfl⟩) hHeld ?_
        simp only [Act.put, List.setIfInBounds_toArray, List.set_cons_zero, List.set_cons_succ]
        refine go_take 9 99 _ (.pointer (some ⟨w1.heap.size, 2, none⟩)) rfl (by kernel_rfl) (by kernel_rfl) (by kernel_rfl) (by kernel_rfl) (fun _ _ _ h => h) (Or.inl ⟨by kernel_rfl, fun u hu => by kernel_rfl⟩) hHeld ?_
        simp only [Act.put, List.setIfInBounds_toArray, List.set_cons_zero, List.set_cons_succ]
        refine go_take 10 100 _ (.int .i64 (rN : Int)) rfl (by kernel_rfl) (by kernel_rfl) (by kernel_rfl) (by kernel_rfl) (fun _ _ _ h => h) (Or.inl ⟨by kernel_rfl, fun u hu => load_int (hcs u hu).2.2.1 (.tmp 99) (by kernel_rfl) (by kernel_rfl)⟩) hHeld ?_
        simp only [Act.put, List.setIfInBounds_toArray, List.set_cons_zero, List.set_cons_succ]
        refine go_take 11 101 _ (.bool false) rfl (by kernel_rfl) (by kernel_rfl) (by kernel_rfl) (by kernel_rfl) (fun _ _ _ h => h) (Or.inl ⟨by kernel_rfl, fun u hu => exec_lt hF2 (.tmp 100) (.const (.int .i64 1)) (by kernel_rfl) (by kernel_rfl) (by kernel_rfl)⟩) hHeld ?_
        simp only [Act.put, List.setIfInBounds_toArray, List.set_cons_zero, List.set_cons_succ]
        refine go_take 12 102 _ (.bool false) rfl (by kernel_rfl) (by kernel_rfl) (by kernel_rfl) (by kernel_rfl) (fun _ _ _ h => h) (Or.inl ⟨by kernel_rfl, fun u hu => by kernel_rfl⟩) hHeld ?_
        simp only [Act.put, List.setIfInBounds_toArray, List.set_cons_zero, List.set_cons_succ]
        refine go_take 13 103 _ (.bool false) rfl (by kernel_rfl) (by kernel_rfl) (by kernel_rfl) (by kernel_rfl) (fun _ _ _ h => h) (Or.inl ⟨by kernel_rfl, fun u hu => by kernel_rfl⟩) hHeld ?_
        simp only [Act.put, List.setIfInBounds_toArray, List.set_cons_zero, List.set_cons_succ]
        refine go_take 14 104 _ (.pointer (some ⟨w1.heap.size, 0, none⟩)) rfl (by kernel_rfl) (by kernel_rfl) (by kernel_rfl) (by kernel_rfl) (fun _ _ _ h => h) (Or.inl ⟨by kernel_rfl, fun u hu => by kernel_rfl⟩) hHeld ?_
        simp only [Act.put, List.setIfInBounds_toArray, List.set_cons_zero, List.set_cons_succ]
        refine go_take 15 105 _ (.int .i64 (rX : Int)) rfl (by kernel_rfl) (by kernel_rfl) (by kernel_rfl) (by kernel_rfl) (fun _ _ _ h => h) (Or.inl ⟨by kernel_rfl, fun u hu => load_int (hcs u hu).1 (.tmp 104) (by kernel_rfl) (by kernel_rfl)⟩) hHeld ?_
        simp only [Act.put, List.setIfInBounds_toArray, List.set_cons_zero, List.set_cons_succ]
        refine go_take 16 106 _ (.slice xo x.length xc) rfl (by kernel_rfl) (by kernel_rfl) (by kernel_rfl) (by kernel_rfl) (fun _ _ _ h => h) (Or.inl ⟨by kernel_rfl, fun u hu => by kernel_rfl⟩) hHeld ?_
        simp only [Act.put, List.setIfInBounds_toArray, List.set_cons_zero, List.set_cons_succ]
        refine go_take 17 107 _ (.int .i64 (x.length : Int)) rfl (by kernel_rfl) (by kernel_rfl) (by kernel_rfl) (by kernel_rfl) (fun _ _ _ h => h) (Or.inl ⟨by kernel_rfl, fun u hu => exec_len (ao := xo) (c := xc) (.tmp 106) (by kernel_rfl) (by kernel_rfl)⟩) hHeld ?_
        simp only [Act.put, List.setIfInBounds_toArray, List.set_cons_zero, List.set_cons_succ]
        refine go_take 18 108 _ (.pointer (some ⟨w1.heap.size, 2, none⟩)) rfl (by kernel_rfl) (by kernel_rfl) (by kernel_rfl) (by kernel_rfl) (fun _ _ _ h => h) (Or.inl ⟨by kernel_rfl, fun u hu => by kernel_rfl⟩) hHeld ?_
        simp only [Act.put, List.setIfInBounds_toArray, List.set_cons_zero, List.set_cons_succ]
        refine go_take 19 109 _ (.int .i64 (rN : Int)) rfl (by kernel_rfl) (by kernel_rfl) (by kernel_rfl) (by kernel_rfl) (fun _ _ _ h => h) (Or.inl ⟨by kernel_rfl, fun u hu => load_int (hcs u hu).2.2.1 (.tmp 108) (by kernel_rfl) (by kernel_rfl)⟩) hHeld ?_
        simp only [Act.put, List.setIfInBounds_toArray, List.set_cons_zero, List.set_cons_succ]
        refine go_take 20 110 _ (.int .i64 (dx : Int)) rfl (by kernel_rfl) (by kernel_rfl) (by kernel_rfl) (by kernel_rfl) (fun _ _ _ h => h) (Or.inl ⟨by kernel_rfl, fun u hu => exec_sub hD0 (.tmp 107) (.tmp 109) (by kernel_rfl) (by kernel_rfl) (by kernel_rfl)⟩) hHeld ?_
        simp only [Act.put, List.setIfInBounds_toArray, List.set_cons_zero, List.set_cons_succ]
        refine go_take 21 111 _ (.bool false) rfl (by kernel_rfl) (by kernel_rfl) (by kernel_rfl) (by kernel_rfl) (fun _ _ _ h => h) (Or.inl ⟨by kernel_rfl, fun u hu => exec_gt hF3 (.tmp 105) (.tmp 110) (by kernel_rfl) (by kernel_rfl) (by kernel_rfl)⟩) hHeld ?_
        simp only [Act.put, List.setIfInBounds_toArray, List.set_cons_zero, List.set_cons_succ]
        refine go_take 22 112 _ (.bool false) rfl (by kernel_rfl) (by kernel_rfl) (by kernel_rfl) (by kernel_rfl) (fun _ _ _ h => h) (Or.inl ⟨by kernel_rfl, fun u hu => by kernel_rfl⟩) hHeld ?_
        simp only [Act.put, List.setIfInBounds_toArray, List.set_cons_zero, List.set_cons_succ]
        refine go_take 23 113 _ (.bool false) rfl (by kernel_rfl) (by kernel_rfl) (by kernel_rfl) (by kernel_rfl) (fun _ _ _ h => h) (Or.inl ⟨by kernel_rfl, fun u hu => by kernel_rfl⟩) hHeld ?_
        simp only [Act.put, List.setIfInBounds_toArray, List.set_cons_zero, List.set_cons_succ]
        refine go_take 24 114 _ (.pointer (some ⟨w1.heap.size, 1, none⟩)) rfl (by kernel_rfl) (by kernel_rfl) (by kernel_rfl) (by kernel_rfl) (fun _ _ _ h => h) (Or.inl ⟨by kernel_rfl, fun u hu => by kernel_rfl⟩) hHeld ?_
        simp only [Act.put, List.setIfInBounds_toArray, List.set_cons_zero, List.set_cons_succ]
        refine go_take 25 115 _ (.int .i64 (rY : Int)) rfl (by kernel_rfl) (by kernel_rfl) (by kernel_rfl) (by kernel_rfl) (fun _ _ _ h => h) (Or.inl ⟨by kernel_rfl, fun u hu => load_int (hcs u hu).2.1 (.tmp 114) (by kernel_rfl) (by kernel_rfl)⟩) hHeld ?_
        simp only [Act.put, List.setIfInBounds_toArray, List.set_cons_zero, List.set_cons_succ]
        refine go_take 26 116 _ (.slice yo y.length yc) rfl (by kernel_rfl) (by kernel_rfl) (by kernel_rfl) (by kernel_rfl) (fun _ _ _ h => h) (Or.inl ⟨by kernel_rfl, fun u hu => by kernel_rfl⟩) hHeld ?_
        simp only [Act.put, List.setIfInBounds_toArray, List.set_cons_zero, List.set_cons_succ]
        refine go_take 27 117 _ (.int .i64 (y.length : Int)) rfl (by kernel_rfl) (by kernel_rfl) (by kernel_rfl) (by kernel_rfl) (fun _ _ _ h => h) (Or.inl ⟨by kernel_rfl, fun u hu => exec_len (ao := yo) (c := yc) (.tmp 116) (by kernel_rfl) (by kernel_rfl)⟩) hHeld ?_
        simp only [Act.put, List.setIfInBounds_toArray, List.set_cons_zero, List.set_cons_succ]
        refine go_take 28 118 _ (.pointer (some ⟨w1.heap.size, 2, none⟩)) rfl (by kernel_rfl) (by kernel_rfl) (by kernel_rfl) (by kernel_rfl) (fun _ _ _ h => h) (Or.inl ⟨by kernel_rfl, fun u hu => by kernel_rfl⟩) hHeld ?_
        simp only [Act.put, List.setIfInBounds_toArray, List.set_cons_zero, List.set_cons_succ]
        refine go_take 29 119 _ (.int .i64 (rN : Int)) rfl (by kernel_rfl) (by kernel_rfl) (by kernel_rfl) (by kernel_rfl) (fun _ _ _ h => h) (Or.inl ⟨by kernel_rfl, fun u hu => load_int (hcs u hu).2.2.1 (.tmp 118) (by kernel_rfl) (by kernel_rfl)⟩) hHeld ?_
        simp only [Act.put, List.setIfInBounds_toArray, List.set_cons_zero, List.set_cons_succ]
        refine go_take 30 120 _ (.int .i64 (dy : Int)) rfl (by kernel_rfl) (by kernel_rfl) (by kernel_rfl) (by kernel_rfl) (fun _ _ _ h => h) (Or.inl ⟨by kernel_rfl, fun u hu => exec_sub hD1 (.tmp 117) (.tmp 119) (by kernel_rfl) (by kernel_rfl) (by kernel_rfl)⟩) hHeld ?_
        simp only [Act.put, List.setIfInBounds_toArray, List.set_cons_zero, List.set_cons_succ]
        refine go_take 31 121 _ (.bool false) rfl (by kernel_rfl) (by kernel_rfl) (by kernel_rfl) (by kernel_rfl) (fun _ _ _ h => h) (Or.inl ⟨by kernel_rfl, fun u hu => exec_gt hF4 (.tmp 115) (.tmp 120) (by kernel_rfl) (by kernel_rfl) (by kernel_rfl)⟩) hHeld ?_
        simp only [Act.put, List.setIfInBounds_toArray, List.set_cons_zero, List.set_cons_succ]
        refine go_take 32 122 _ (.bool false) rfl (by kernel_rfl) (by kernel_rfl) (by kernel_rfl) (by kernel_rfl) (fun _ _ _ h => h) (Or.inl ⟨by kernel_rfl, fun u hu => by kernel_rfl⟩) hHeld ?_
        simp only [Act.put, List.setIfInBounds_toArray, List.set_cons_zero, List.set_cons_succ]
        refine go_take 33 123 _ (.bool false) rfl (by kernel_rfl) (by kernel_rfl) (by kernel_rfl) (by kernel_rfl) (fun _ _ _ h => h) (Or.inl ⟨by kernel_rfl, fun u hu => by kernel_rfl⟩) hHeld ?_
        simp only [Act.put, List.setIfInBounds_toArray, List.set_cons_zero, List.set_cons_succ]
        refine go_take 34 124 _ (.pointer (some ⟨w1.heap.size, 3, none⟩)) rfl (by kernel_rfl) (by kernel_rfl) (by kernel_rfl) (by kernel_rfl) (fun _ _ _ h => h) (Or.inl ⟨by kernel_rfl, fun u hu => by kernel_rfl⟩) hHeld ?_
        simp only [Act.put, List.setIfInBounds_toArray, List.set_cons_zero, List.set_cons_succ]
        refine go_take 35 125 _ (.int .i64 (rR : Int)) rfl (by kernel_rfl) (by kernel_rfl) (by kernel_rfl) (by kernel_rfl) (fun _ _ _ h => h) (Or.inl ⟨by kernel_rfl, fun u hu => load_int (hcs u hu).2.2.2 (.tmp 124) (by kernel_rfl) (by kernel_rfl)⟩) hHeld ?_
        simp only [Act.put, List.setIfInBounds_toArray, List.set_cons_zero, List.set_cons_succ]
        refine go_take 36 126 _ (.int .i64 (rR : Int)) rfl (by kernel_rfl) (by kernel_rfl) (by kernel_rfl) (by kernel_rfl) (fun _ _ _ h => h) (Or.inl ⟨by kernel_rfl, fun u hu => by kernel_rfl⟩) hHeld ?_
        simp only [Act.put, List.setIfInBounds_toArray, List.set_cons_zero, List.set_cons_succ]
        refine go_take 37 127 _ (.bool false) rfl (by kernel_rfl) (by kernel_rfl) (by kernel_rfl) (by kernel_rfl) (fun _ _ _ h => h) (Or.inl ⟨by kernel_rfl, fun u hu => exec_ne (p := (rR : Int)) (.tmp 125) (.tmp 126) (by kernel_rfl) (by kernel_rfl) (by kernel_rfl)⟩) hHeld ?_
        simp only [Act.put, List.setIfInBounds_toArray, List.set_cons_zero, List.set_cons_succ]
        refine go_take 38 128 _ (.bool false) rfl (by kernel_rfl) (by kernel_rfl) (by kernel_rfl) (by kernel_rfl) (fun _ _ _ h => h) (Or.inl ⟨by kernel_rfl, fun u hu => by kernel_rfl⟩) hHeld ?_
        simp only [Act.put, List.setIfInBounds_toArray, List.set_cons_zero, List.set_cons_succ]
        refine go_take 39 129 _ (.bool false) rfl (by kernel_rfl) (by kernel_rfl) (by kernel_rfl) (by kernel_rfl) (fun _ _ _ h => h) (Or.inl ⟨by kernel_rfl, fun u hu => by kernel_rfl⟩) hHeld ?_
        simp only [Act.put, List.setIfInBounds_toArray, List.set_cons_zero, List.set_cons_succ]
        refine go_take 40 130 _ (.slice xo x.length xc) rfl (by kernel_rfl) (by kernel_rfl) (by kernel_rfl) (by kernel_rfl) (fun _ _ _ h => h) (Or.inl ⟨by kernel_rfl, fun u hu => by kernel_rfl⟩) hHeld ?_
        simp only [Act.put, List.setIfInBounds_toArray, List.set_cons_zero, List.set_cons_succ]
        refine go_take 41 131 _ (.pointer (some ⟨w1.heap.size, 0, none⟩)) rfl (by kernel_rfl) (by kernel_rfl) (by kernel_rfl) (by kernel_rfl) (fun _ _ _ h => h) (Or.inl ⟨by kernel_rfl, fun u hu => by kernel_rfl⟩) hHeld ?_
        simp only [Act.put, List.setIfInBounds_toArray, List.set_cons_zero, List.set_cons_succ]
        refine go_take 42 132 _ (.int .i64 (rX : Int)) rfl (by kernel_rfl) (by kernel_rfl) (by kernel_rfl) (by kernel_rfl) (fun _ _ _ h => h) (Or.inl ⟨by kernel_rfl, fun u hu => load_int (hcs u hu).1 (.tmp 131) (by kernel_rfl) (by kernel_rfl)⟩) hHeld ?_
        simp only [Act.put, List.setIfInBounds_toArray, List.set_cons_zero, List.set_cons_succ]
        refine go_take 43 133 _ (.pointer (some ⟨w1.heap.size, 0, none⟩)) rfl (by kernel_rfl) (by kernel_rfl) (by kernel_rfl) (by kernel_rfl) (fun _ _ _ h => h) (Or.inl ⟨by kernel_rfl, fun u hu => by kernel_rfl⟩) hHeld ?_
        simp only [Act.put, List.setIfInBounds_toArray, List.set_cons_zero, List.set_cons_succ]
        refine go_take 44 134 _ (.int .i64 (rX : Int)) rfl (by kernel_rfl) (by kernel_rfl) (by kernel_rfl) (by kernel_rfl) (fun _ _ _ h => h) (Or.inl ⟨by kernel_rfl, fun u hu => load_int (hcs u hu).1 (.tmp 133) (by kernel_rfl) (by kernel_rfl)⟩) hHeld ?_
        simp only [Act.put, List.setIfInBounds_toArray, List.set_cons_zero, List.set_cons_succ]
        refine go_take 45 135 _ (.pointer (some ⟨w1.heap.size, 2, none⟩)) rfl (by kernel_rfl) (by kernel_rfl) (by kernel_rfl) (by kernel_rfl) (fun _ _ _ h => h) (Or.inl ⟨by kernel_rfl, fun u hu => by kernel_rfl⟩) hHeld ?_
        simp only [Act.put, List.setIfInBounds_toArray, List.set_cons_zero, List.set_cons_succ]
        refine go_take 46 136 _ (.int .i64 (rN : Int)) rfl (by kernel_rfl) (by kernel_rfl) (by kernel_rfl) (by kernel_rfl) (fun _ _ _ h => h) (Or.inl ⟨by kernel_rfl, fun u hu => load_int (hcs u hu).2.2.1 (.tmp 135) (by kernel_rfl) (by kernel_rfl)⟩) hHeld ?_
        simp only [Act.put, List.setIfInBounds_toArray, List.set_cons_zero, List.set_cons_succ]
        refine go_take 47 137 _ (.int .i64 (ux : Int)) rfl (by kernel_rfl) (by kernel_rfl) (by kernel_rfl) (by kernel_rfl) (fun _ _ _ h => h) (Or.inl ⟨by kernel_rfl, fun u hu => exec_add hA0 (.tmp 134) (.tmp 136) (by kernel_rfl) (by kernel_rfl) (by kernel_rfl)⟩) hHeld ?_
        simp only [Act.put, List.setIfInBounds_toArray, List.set_cons_zero, List.set_cons_succ]
        refine go_take 48 138 _ (.slice xo2 rN xc2) rfl (by kernel_rfl) (by kernel_rfl) (by kernel_rfl) (by kernel_rfl) (fun _ _ _ h => h) (Or.inl ⟨by kernel_rfl, fun u hu => exec_slB2 r1 (.tmp 130) (.tmp 132) (.tmp 137) (by kernel_rfl) (by kernel_rfl) (by kernel_rfl) (by kernel_rfl)⟩) hHeld ?_
        simp only [Act.put, List.setIfInBounds_toArray, List.set_cons_zero, List.set_cons_succ]
        refine go_take 49 139 _ (.slice yo y.length yc) rfl (by kernel_rfl) (by kernel_rfl) (by kernel_rfl) (by kernel_rfl) (fun _ _ _ h => h) (Or.inl ⟨by kernel_rfl, fun u hu => by kernel_rfl⟩) hHeld ?_
        simp only [Act.put, List.setIfInBounds_toArray, List.set_cons_zero, List.set_cons_succ]
        refine go_take 50 140 _ (.pointer (some ⟨w1.heap.size, 1, none⟩)) rfl (by kernel_rfl) (by kernel_rfl) (by kernel_rfl) (by kernel_rfl) (fun _ _ _ h => h) (Or.inl ⟨by kernel_rfl, fun u hu => by kernel_rfl⟩) hHeld ?_
        simp only [Act.put, List.setIfInBounds_toArray, List.set_cons_zero, List.set_cons_succ]
        refine go_take 51 141 _ (.int .i64 (rY : Int)) rfl (by kernel_rfl) (by kernel_rfl) (by kernel_rfl) (by kernel_rfl) (fun _ _ _ h => h) (Or.inl ⟨by kernel_rfl, fun u hu => load_int (hcs u hu).2.1 (.tmp 140) (by kernel_rfl) (by kernel_rfl)⟩) hHeld ?_
        simp only [Act.put, List.setIfInBounds_toArray, List.set_cons_zero, List.set_cons_succ]
        refine go_take 52 142 _ (.pointer (some ⟨w1.heap.size, 1, none⟩)) rfl (by kernel_rfl) (by kernel_rfl) (by kernel_rfl) (by kernel_rfl) (fun _ _ _ h => h) (Or.inl ⟨by kernel_rfl, fun u hu => by kernel_rfl⟩) hHeld ?_
        simp only [Act.put, List.setIfInBounds_toArray, List.set_cons_zero, List.set_cons_succ]
        refine go_take 53 143 _ (.int .i64 (rY : Int)) rfl (by kernel_rfl) (by kernel_rfl) (by kernel_rfl) (by kernel_rfl) (fun _ _ _ h => h) (Or.inl ⟨by kernel_rfl, fun u hu => load_int (hcs u hu).2.1 (.tmp 142) (by kernel_rfl) (by kernel_rfl)⟩) hHeld ?_
        simp only [Act.put, List.setIfInBounds_toArray, List.set_cons_zero, List.set_cons_succ]
        refine go_take 54 144 _ (.pointer (some ⟨w1.heap.size, 2, none⟩)) rfl (by kernel_rfl) (by kernel_rfl) (by kernel_rfl) (by kernel_rfl) (fun _ _ _ h => h) (Or.inl ⟨by kernel_rfl, fun u hu => by kernel_rfl⟩) hHeld ?_
        simp only [Act.put, List.setIfInBounds_toArray, List.set_cons_zero, List.set_cons_succ]
        refine go_take 55 145 _ (.int .i64 (rN : Int)) rfl (by kernel_rfl) (by kernel_rfl) (by kernel_rfl) (by kernel_rfl) (fun _ _ _ h => h) (Or.inl ⟨by kernel_rfl, fun u hu => load_int (hcs u hu).2.2.1 (.tmp 144) (by kernel_rfl) (by kernel_rfl)⟩) hHeld ?_
        simp only [Act.put, List.setIfInBounds_toArray, List.set_cons_zero, List.set_cons_succ]
        refine go_take 56 146 _ (.int .i64 (uy : Int)) rfl (by kernel_rfl) (by kernel_rfl) (by kernel_rfl) (by kernel_rfl) (fun _ _ _ h => h) (Or.inl ⟨by kernel_rfl, fun u hu => exec_add hA1 (.tmp 143) (.tmp 145) (by kernel_rfl) (by kernel_rfl) (by kernel_rfl)⟩) hHeld ?_
        simp only [Act.put, List.setIfInBounds_toArray, List.set_cons_zero, List.set_cons_succ]
        refine go_take 57 147 _ (.slice yo2 rN yc2) rfl (by kernel_rfl) (by kernel_rfl) (by kernel_rfl) (by kernel_rfl) (fun _ _ _ h => h) (Or.inl ⟨by kernel_rfl, fun u hu => exec_slB2 r2 (.tmp 139) (.tmp 141) (.tmp 146) (by kernel_rfl) (by kernel_rfl) (by kernel_rfl) (by kernel_rfl)⟩) hHeld ?_
        simp only [Act.put, List.setIfInBounds_toArray, List.set_cons_zero, List.set_cons_succ]
        refine go_callE 58 148 _ rfl (by kernel_rfl) (by kernel_rfl) (by kernel_rfl) 9 (.func 9) #[.tmp 138, .tmp 147] #[22, 22] (by kernel_rfl) #[] (by kernel_rfl) #[.slice xo2 rN xc2, .slice yo2 rN yc2] (by kernel_rfl) (enters_of Try.func9 (by kernel_rfl) rfl) _ (same_held (hxs _ hHeld).1 (hxs _ hHeld).2 HXl.out HXY hHeld) ?_
        rintro _ u58 hHeld rfl
        simp only [Act.put, List.setIfInBounds_toArray, List.set_cons_zero, List.set_cons_succ]
        refine go_take 59 149 _ (.bool false) rfl (by kernel_rfl) (by kernel_rfl) (by kernel_rfl) (by kernel_rfl) (fun _ _ _ h => h) (Or.inl ⟨by kernel_rfl, fun u hu => by kernel_rfl⟩) hHeld ?_
        simp only [Act.put, List.setIfInBounds_toArray, List.set_cons_zero, List.set_cons_succ]
        refine go_take 60 150 _ (.bool false) rfl (by kernel_rfl) (by kernel_rfl) (by kernel_rfl) (by kernel_rfl) (fun _ _ _ h => h) (Or.inl ⟨by kernel_rfl, fun u hu => by kernel_rfl⟩) hHeld ?_
        simp only [Act.put, List.setIfInBounds_toArray, List.set_cons_zero, List.set_cons_succ]
        refine wpAnyH_done (by kernel_rfl) ?_ _
        refine NoPanic.normal ?_
        have hB58 := hB0r.trans (Below.mono hHeld hB0r.size)
        have hH58 := hHr.low hHeld
        clear hcs hxs r1 r2 hHeld HXY HXl hHr hB0r hBr hF0 hF1 hF2 hF3 hF4 hD0 hD1
        obtain ⟨c0, c1, c2, c3⟩ := hH58.cells
        simp only at c0 c1 c2 c3
        obtain ⟨xb, xf, rfl, _, hcx⟩ := HI.at (HI.keep hx hB58 (Nat.le_refl _)) (by omega)
        obtain ⟨yb, yf, rfl, _, hcy⟩ := HI.at (HI.keep hy hB58 (Nat.le_refl _)) (by omega)
        go_wp2_with fail
        go_cut [13] from 151 to 173 (fun z wz => z = .bool false ∧ ∃ m, wz = u58.drewN m)
        case first =>
          by_cases hA : 0 < rX
          · have e1 : decide ((0 : Int) < (rX : Int)) = true := decide_eq_true (by omega)
            have e1' : decide (0 < rX) = true := decide_eq_true hA
            by_cases hB : 0 < rY
            · have e2 : decide ((0 : Int) < (rY : Int)) = true := decide_eq_true (by omega)
              have e2' : decide (0 < rY) = true := decide_eq_true hB
              obtain ⟨px, hpx⟩ : ∃ p, rX - 1 = p := ⟨_, rfl⟩
              obtain ⟨py, hpy⟩ : ∃ p, rY - 1 = p := ⟨_, rfl⟩
              have n1 : (rX : Int) - 1 = (px : Int) := by omega
              have n2 : (rY : Int) - 1 = (py : Int) := by omega
              have n3 : IntKind.i64.wrap (px : Int) = (px : Int) := by rw [IntKind.wrap_i64]; omega
              have n4 : IntKind.i64.wrap (py : Int) = (py : Int) := by rw [IntKind.wrap_i64]; omega
              have x0 := hcx px (by omega)
              have y0 := hcy py (by omega)
              have hne : ¬ x[px]'(by omega) = y[py]'(by omega) := fun h => HFst.out ⟨hA, hB, by rw [hpx, hpy, List.getElem?_eq_getElem (by omega), List.getElem?_eq_getElem (by omega), h]⟩
              obtain ⟨zx, hzx⟩ : ∃ z, x[px]'(by omega) = z := ⟨_, rfl⟩
              obtain ⟨zy, hzy⟩ : ∃ z, y[py]'(by omega) = z := ⟨_, rfl⟩
              rw [hzx] at x0 hne
              rw [hzy] at y0 hne
              have e3 : (zx == zy) = false := beq_eq_false_iff_ne.2 hne
              have i1 : 0 ≤ (px : Int) := by omega
              have i2 : (px : Int) < (x.length : Int) := by omega
              have i3 : 0 ≤ (py : Int) := by omega
              have i4 : (py : Int) < (y.length : Int) := by omega
              clear hcx hcy hzx hzy hne hpx hpy HFst HLst
              go_big_quiet (fail)
              go_wp2
              go_meet
              case rel => exact ⟨rfl, _, rfl⟩
            · have e2 : decide ((0 : Int) < (rY : Int)) = false := decide_eq_false (by omega)
              have e2' : decide (0 < rY) = false := decide_eq_false hB
              clear hcx hcy HFst HLst
              go_big_quiet (fail)
              go_wp2
              go_meet
              case rel => exact ⟨rfl, _, rfl⟩
          · have e1 : decide ((0 : Int) < (rX : Int)) = false := decide_eq_false (by omega)
            have e1' : decide (0 < rX) = false := decide_eq_false hA
            clear hcx hcy HFst HLst
            go_big_quiet (fail)
            go_wp2
            go_meet
            case rel => exact ⟨rfl, _, rfl⟩
        case rest =>
          obtain ⟨rfl, mq, rfl⟩ := hcut
          have hBq := Below.dN hB58 mq
          have hHq := hH58.low (Below.dN (Below.refl _ u58) mq)
          clear hcx hcy c0 c1 c2 c3 hB58 hH58 HFst
          generalize u58.drewN mq = wq at hBq hHq ⊢
          obtain ⟨c0, c1, c2, c3⟩ := hHq.cells
          simp only at c0 c1 c2 c3
          obtain ⟨xb', xf', hxe, _, hcx⟩ := HI.at (HI.keep hx hBq (Nat.le_refl _)) (by omega)
          cases hxe
          obtain ⟨yb', yf', hye, _, hcy⟩ := HI.at (HI.keep hy hBq (Nat.le_refl _)) (by omega)
          cases hye
          have n1 : (rX : Int) + (rN : Int) = (ux : Int) := by omega
          have n2 : (rY : Int) + (rN : Int) = (uy : Int) := by omega
          have n3 : IntKind.i64.wrap (ux : Int) = (ux : Int) := by rw [IntKind.wrap_i64]; omega
          have n4 : IntKind.i64.wrap (uy : Int) = (uy : Int) := by rw [IntKind.wrap_i64]; omega
          by_cases hA : ux < x.length
          · have e1 : decide ((ux : Int) < (x.length : Int)) = true := decide_eq_true (by omega)
            have e1' : decide (ux < x.length) = true := decide_eq_true hA
            by_cases hB : uy < y.length
            · have e2 : decide ((uy : Int) < (y.length : Int)) = true := decide_eq_true (by omega)
              have e2' : decide (uy < y.length) = true := decide_eq_true hB
              have x0 := hcx ux (by omega)
              have y0 := hcy uy (by omega)
              have hne : ¬ x[ux]'hA = y[uy]'hB := fun h => HLst.out ⟨hA, hB, by rw [List.getElem?_eq_getElem hA, List.getElem?_eq_getElem hB, h]⟩
              obtain ⟨zx, hzx⟩ : ∃ z, x[ux]'hA = z := ⟨_, rfl⟩
              obtain ⟨zy, hzy⟩ : ∃ z, y[uy]'hB = z := ⟨_, rfl⟩
              rw [hzx] at x0 hne
              rw [hzy] at y0 hne
              have e3 : (zx == zy) = false := beq_eq_false_iff_ne.2 hne
              have i1 : 0 ≤ (ux : Int) := by omega
              have i2 : (ux : Int) < (x.length : Int) := by omega
              have i3 : 0 ≤ (uy : Int) := by omega
              have i4 : (uy : Int) < (y.length : Int) := by omega
              clear hcx hcy hzx hzy hne HLst hux huy
              go_wp2_with fail
              go_big_quiet (fail)
              have hBz := Below.dN hBq nq
              go_wp2
              go_ret
              exact ⟨rfl, hBz⟩
            · have e2 : decide ((uy : Int) < (y.length : Int)) = false := decide_eq_false (by omega)
              have e2' : decide (uy < y.length) = false := decide_eq_false hB
              clear hcx hcy HLst hux huy
              go_wp2_with fail
              go_big_quiet (fail)
              have hBz := Below.dN hBq nq
              go_wp2
              go_ret
              exact ⟨rfl, hBz⟩
          · have e1 : decide ((ux : Int) < (x.length : Int)) = false := decide_eq_false (by omega)
            have e1' : decide (ux < x.length) = false := decide_eq_false hA
            clear hcx hcy HLst hux huy
            go_wp2_with fail
            go_big_quiet (fail)
            have hBz := Below.dN hBq nq
            go_wp2
            go_ret
            exact ⟨rfl, hBz⟩
set_option maxRecDepth 20000 in
theorem contract (H : Type) (enc : TypeId × Value → H) (W : World) (base : Nat) (args : Array Value) (ds gs : List (DataW H)) (before : List MemPlace)
    (hval : ∀ (j : Nat) t v, Try.f4.params[j]? = some t → args[j]? = some v → Value.okWide Try.prog W .any base t v)
    (hW : DataW.Whole enc Try.prog Try.f4.params.toList Rows.histogramRunSpec.vars false W args.toList ds gs before) :
    Calls Try.prog 4 args W fun e W' => ∃ v, e = .returned v ∧ Rows.histogramRunSpec.post enc Try.prog Try.f4 false true false false W args v W' := by
  have hW' := hW
  obtain ⟨p, q, hA0, hV, rfl, hfz, hnd⟩ := hW
  have hA : DataW.TrodAll enc Try.prog W 0 (fun _ => true) true Try.f4.params.toList args.toList ds p := hA0
  rw [Try.params4] at hA hval
  obtain ⟨v0, vs0, d0, ds0, p0, q0, hargs, rfl, rfl, h0, r0⟩ := trodAll_cons hA
  obtain ⟨v1, vs1, d1, ds1, p1, q1, rfl, rfl, rfl, h1, r1⟩ := trodAll_cons r0
  obtain ⟨rfl, rfl, rfl⟩ := trodAll_nil r1
  obtain rfl : args = #[v0, v1] := by cases args; simp_all
  obtain ⟨rfl, rfl⟩ := trodVars_none hV
  obtain ⟨a0, len0, cap0, rfl⟩ := okWide_slice Try.underlying22 (hval 0 22 v0 rfl rfl)
  have k0 := h0
  have lt0 : ∀ x ∈ p0, x.block < W.heap.size := by obtain ⟨m, hm⟩ := k0; exact DataW.trod_lt m _ _ _ hm
  obtain ⟨a1, len1, cap1, rfl⟩ := okWide_slice Try.underlying22 (hval 1 22 v1 rfl rfl)
  have k1 := h1
  have lt1 : ∀ x ∈ p1, x.block < W.heap.size := by obtain ⟨m, hm⟩ := k1; exact DataW.trod_lt m _ _ _ hm
  clear hA0
  obtain ⟨f0, hf0⟩ := h0
  obtain ⟨ws0, hv0, hwl0, hwf0⟩ := open_nums (by simpa [Value.cells] using hf0)
  obtain ⟨f1, hf1⟩ := h1
  obtain ⟨ws1, hv1, hwl1, hwf1⟩ := open_nums (by simpa [Value.cells] using hf1)
  have hw := walk ws0 ws1 (.slice a0 len0 cap0) (.slice a1 len1 cap1) W hwf0 hwf1 hv0 hv1
  refine hw.mono fun e W' ⟨he, bel⟩ => ?_
  subst he
  exact ⟨_, rfl, _, _, _, [], _, [], hW', trodAll_mk1 (shut_bool Try.underlying4 _), trodAll_cons_mk (Below.trod laidOut (by kernel_rfl) (of_decide_eq_true (by kernel_rfl)) k0 bel lt0) (trodAll_cons_mk (Below.trod laidOut (by kernel_rfl) (of_decide_eq_true (by kernel_rfl)) k1 bel lt1) trodAll_mk0), rfl, bel.frame _, fun h => by cases h⟩

set_option maxRecDepth 100000 in
theorem lifted (os : Os) (started : os.Started) (H : Type) (enc : TypeId × Value → H) :
    ReturnsInHanded {} Try.checked os 4 .any (Rows.histogramRunSpec.pre6 enc Try.prog Try.f4 Rows.histogramRunRow.domain false) (Rows.histogramRunSpec.post enc Try.prog Try.f4 false true false false) := by
  refine returnsInHanded_of_change (C := Try.checked) own started (by kernel_rfl) Try.func4
    (ChangeSpec.witness6 (enc := enc) (C := Try.checked) false ⟨#[], #[.slice none 0 0, .slice none 0 0], []⟩ 8 (by kernel_rfl) (by kernel_rfl) (by kernel_rfl) (by kernel_rfl)) ?_
  intro W base args ds gs before hval hW _ _
  exact contract H enc W base args ds gs before hval hW

theorem proved : Rows.HistogramRunSaid :=
  OpenClaim.holds_of_wide 4 Try.f4 rfl rfl rfl rfl rfl rfl rfl ⟨rfl, rfl, rfl, rfl, rfl⟩ rfl rfl rfl rfl rfl (by kernel_rfl) Try.func4 (by kernel_rfl)
    (of_decide_eq_true (by kernel_rfl)) (by unfold Func.isWrapper; first | (rw [if_pos (by decide +kernel)]; kernel_rfl) | (rw [if_neg (by decide +kernel)]; exact ⟨rfl, rfl⟩))
    (fun os started H enc _ => lifted os started H enc)
#print axioms proved
