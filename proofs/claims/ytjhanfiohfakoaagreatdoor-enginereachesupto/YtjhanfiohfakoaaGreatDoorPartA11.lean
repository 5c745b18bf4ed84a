/-
  Texts that belong together, joined: PaFd, PaLs, PaTr, MiRk, PcLe.
-/
import Derived.Test.YtjhanfiohfakoaaGreatDoorPartA7
import Derived.Test.YtjhanfiohfakoaaGreatDoorPartA8
import Derived.Test.YtjhanfiohfakoaaGreatDoorPartA10
import Derived.Test.YtjhanfiohfakoaaGreatDoorPartA6
import Derived.Test.YtjhanfiohfakoaaGreatDoorPartA9
import Derived.Laws.Rows
import Derived.Deep.CutRange

/- patience.Diff's closure find, walked, by induction on how long a piece may be. -/
set_option maxRecDepth 20000
namespace Go.Proofs.YtjhanfiohfakoaaGreatDoor
open Go.RowKit
attribute [local simp] low_drew

theorem unq_length' (x y : List Int) : (unq x y).length ≤ x.length := uq_length x y 0 x
/-- a pair in a box -/
def Bx2 (u : World) (B : Nat) (p q : Nat) : Prop := u.heap[B]? = some (.cells #[.int .i64 (p : Int), .int .i64 (q : Int)] 115 (0, 0))
section
variable {u u' : World} {B p q : Nat}
theorem Bx2.cells (h : Bx2 u B p q) : u.cell? ⟨B, 0, none⟩ = some (.int .i64 (p : Int)) ∧ u.cell? ⟨B, 1, none⟩ = some (.int .i64 (q : Int)) := by
  refine ⟨?_, ?_⟩ <;> rw [Lib.cell_of_heap h] <;> rfl
theorem Bx2.frozen (h : Bx2 u B p q) (j : Nat) : u.frozen? ⟨B, j, none⟩ = false := by
  unfold World.frozen?
  rw [h]
  rfl
theorem Bx2.lt (h : Bx2 u B p q) : B < u.heap.size := (Array.getElem?_eq_some_iff.1 h).1
theorem Bx2.keep (h : Bx2 u B p q) {r : Option Nat} (hg : u.grownBy u' r) (hr : some B ≠ r) : Bx2 u' B p q := (hg.block B h.lt hr).trans h
theorem Bx2.low (h : Bx2 u B p q) (hg : Below u.heap.size u u') : Bx2 u' B p q := (hg.block B h.lt).trans h
theorem Bx2.new (w : World) (p q : Nat) : Bx2 (w.alloc (.cells #[.int .i64 (p : Int), .int .i64 (q : Int)] 115)) w.heap.size p q := _root_.Go.heap_alloc_new w _
theorem Bx2.put (h : Bx2 u B p q) (p' q' : Nat) : Bx2 ((u.setCell ⟨B, 0, none⟩ (.int .i64 (p' : Int))).setCell ⟨B, 1, none⟩ (.int .i64 (q' : Int))) B p' q' :=
  heap_setCell_same _ B 1 _ _ _ (heap_setCell_same u B 0 _ _ _ h)
end

theorem load_fn {u : World} {a : Addr} {n : Nat} {c : Array Value} (h : u.cell? a = some (.func (.func n) #[] c)) {op : Oper} (x : Operand) (ho : op.op = .load 108 x) {ev : Operand → Value} (hx : ev x = .pointer (some a)) :
    (execOp ev op).run Tryz.prog u = .ok (.value (.func (.func n) #[] c)) u := by
  simp only [execOp, ho, hx]
  go_simp
theorem cell_below {u u' : World} (h : Below u.heap.size u u') {a : Addr} {v : Value} (hc : u.cell? a = some v) : u'.cell? a = some v := cell_low h hc

set_option maxRecDepth 10000 in
set_option maxHeartbeats 8000000 in
theorem find_f (x y : List Int) (W0 : World) (g Bf : Nat) (hf0 : W0.cell? ⟨Bf, 0, none⟩ = some (.func (.func 66) #[] #[.pointer (some ⟨Bf, 0, none⟩)])) (hxl : x.length ≤ 4096) (hyl : y.length ≤ 4096) (hwx : ∀ c ∈ x, w64 c) (hwy : ∀ c ∈ y, w64 c) (f : Nat) : ∀ (w : World) (K : List Int) (_ : Ls W0 g x.length K w) (a b c d : Nat) (xo : Option Addr) (nx xc : Nat) (yo : Option Addr) (ny yc : Nat) (ko : Option Addr) (kc : Nat) (_ : Pz W0 g x y a b c d xo nx xc yo ny yc ko kc) (_ : b - a < f) (KF : List Int) (_ : Hid (wrk K (pcs (pmid x y) x y f a b c d) = KF)),
    Calls Tryz.prog 66 #[.agg #[.slice xo nx xc, .slice yo ny yc, .int .i64 (c : Int), .slice ko nx kc], .pointer (some ⟨Bf, 0, none⟩)] w fun e w' => e = .returned (.tuple #[]) ∧ Ls W0 g x.length KF w' ∧ w.grownBy w' (some g) := by
  induction f with
  | zero => intro w K hS a b c d xo nx xc yo ny yc ko kc hp hf; omega
  | succ f ih =>
    intro w K hS a b c d xo nx xc yo ny yc ko kc hp hf KF hKF
    have hg := hS.lt
    have HKF : Hid (∀ k m, k = tf x y a b c d → m = tb x y (a + k) b (c + k) d → wrk (wrk K (fp a c k ++ bp b d m)) (if a + k < b - m ∧ c + k < d - m then pmid x y (pcs (pmid x y) x y f) (a + k) (b - m) (c + k) (d - m) else []) = KF) := (by
      intro k m hk hm
      rw [← hKF.out, pcs, ends, ← hk, ← hm, wrk_append, wrk_append, wrk_append])
    have hQ0 := Qbx.new w (.slice xo nx xc) (.slice yo ny yc) (.int .i64 c) (.slice ko nx kc)
    have hB0 := (Below.refl w.heap.size w).alloc (Nat.le_refl _) (.cells #[.slice xo nx xc, .slice yo ny yc, .int .i64 c, .slice ko nx kc] 110)
    clear hKF
    go_enter Tryz.func66, Tryz.ntmps66
    go_wp2_with fail
    refine (KeepEnds_f x y W0 _ g K a b c d xo nx xc yo ny yc ko kc hp hxl hyl (hS.keep hB0)).mono ?_
    rintro e w1 ⟨k, m, xo1, nx1, xc1, yo1, ny1, yc1, ko1, kc1, hk, hm, rfl, hp1, hS1, hG1⟩
    have HK2 := HKF.out k m hk hm
    have hkl := tf_le x y a b c d
    have hml := tb_le x y (a + k) b (c + k) d
    rw [← hk] at hkl
    rw [← hm] at hml
    have hQ1 := hQ0.keep hG1 (by simp; omega)
    have hG1' : w.grownBy w1 (some g) := (low_grown hB0 _).trans hG1
    have hb0 := hp.eb
    have hf' := hp.bx
    clear hk hm HKF hS hB0 hQ0 hG1 hp
    obtain ⟨A, hA⟩ : ∃ A, a + k = A := ⟨_, rfl⟩
    obtain ⟨C, hC⟩ : ∃ C, c + k = C := ⟨_, rfl⟩
    obtain ⟨b1, hb1⟩ : ∃ B, b - m = B := ⟨_, rfl⟩
    obtain ⟨d1, hd1⟩ : ∃ D, d - m = D := ⟨_, rfl⟩
    obtain ⟨K1, hK1⟩ : ∃ K1, wrk K (fp a c k ++ bp b d m) = K1 := ⟨_, rfl⟩
    rw [hK1] at hS1 HK2
    rw [hA, hC, hb1, hd1] at HK2 hp1
    rw [hC]
    have HK3 : Hid (wrk K1 (if A < b1 ∧ C < d1 then pmid x y (pcs (pmid x y) x y f) A b1 C d1 else []) = KF) := HK2
    have hf1 : b1 - A ≤ f := by omega
    clear hA hC hb1 hd1 hK1 hkl hml hf HK2 hb0 hf'
    obtain ⟨c0, c1, c2, c3⟩ := hQ1.cells
    have f0 := hQ1.frozen
    have hQ2 := hQ1.put (.slice xo1 nx1 xc1) (.slice yo1 ny1 yc1) (.int .i64 (C : Int)) (.slice ko1 nx1 kc1)
    have hgw := hS1.low.size
    have hS2 := ls_other (ls_other (ls_other (ls_other hS1 (g := w.heap.size) (by omega) (by omega) 0 (.slice xo1 nx1 xc1)) (g := w.heap.size) (by omega) (by omega) 1 (.slice yo1 ny1 yc1)) (g := w.heap.size) (by omega) (by omega) 2 (.int .i64 (C : Int))) (g := w.heap.size) (by omega) (by omega) 3 (.slice ko1 nx1 kc1)
    have hG2 := grown_new (grown_new (grown_new (grown_new hG1' (B := w.heap.size) (by omega) 0 (.slice xo1 nx1 xc1)) (B := w.heap.size) (by omega) 1 (.slice yo1 ny1 yc1)) (B := w.heap.size) (by omega) 2 (.int .i64 (C : Int))) (B := w.heap.size) (by omega) 3 (.slice ko1 nx1 kc1)
    obtain ⟨W2, hW2⟩ : ∃ W2, (((w1.setCell ⟨w.heap.size, 0, none⟩ (.slice xo1 nx1 xc1)).setCell ⟨w.heap.size, 1, none⟩ (.slice yo1 ny1 yc1)).setCell ⟨w.heap.size, 2, none⟩ (.int .i64 (C : Int))).setCell ⟨w.heap.size, 3, none⟩ (.slice ko1 nx1 kc1) = W2 := ⟨_, rfl⟩
    rw [hW2] at hQ2 hS2 hG2
    unfold pzV
    have hAb := hp1.eb
    have hCd := hp1.ed
    obtain ⟨r, hr⟩ : ∃ r, r = decide (nx1 = 0 ∨ ny1 = 0) := ⟨_, rfl⟩
    have HR : Hid (r = decide (nx1 = 0 ∨ ny1 = 0)) := hr
    obtain ⟨q0, q1, q2, q3⟩ := hQ2.cells
    clear hr
    go_wp2_with fail
    refine (Empty_f xo1 nx1 xc1 yo1 ny1 yc1 C ko1 kc1 W2 r HR).mono ?_
    rintro e w3 ⟨rfl, hB3⟩
    clear q0 q1 q2 q3 c0 c1 c2 c3 f0 hW2 hQ1 hS1 hG1'
    have hQ3 := hQ2.low hB3
    have hS3 := hS2.keep hB3
    have hG3 := hG2.trans (low_grown hB3 (some g))
    clear hQ2 hS2 hG2 hB3
    cases r with
    | true =>
      have e : K1 = KF := by
        have h1 := of_decide_eq_true HR.out.symm
        have := HK3.out
        rw [if_neg (by omega)] at this
        exact this
      subst e
      go_wp2
      (try simp only [Exit.inBlock, Exit.then])
      refine bodyPost_ret (results_none rfl _ _ _) rfl ?_
      exact ⟨rfl, hS3, hG3⟩
    | false =>
      have h1 := of_decide_eq_false HR.out.symm
      have hm0 : A < b1 ∧ C < d1 := by omega
      have HK2 : Hid (wrk K1 (pmid x y (pcs (pmid x y) x y f) A b1 C d1) = KF) := (by
        show _ = _
        have := HK3.out
        rw [if_pos hm0] at this
        exact this)
      clear HK3 HR
      have hbx := hp1.bx
      have hdy := hp1.dy
      obtain ⟨X, hX⟩ : ∃ X, sub x A b1 = X := ⟨_, rfl⟩
      obtain ⟨Y, hY⟩ : ∃ Y, sub y C d1 = Y := ⟨_, rfl⟩
      have hXl : X.length = nx1 := by rw [← hX, sub_length x A b1 hbx]; omega
      have hYl : Y.length = ny1 := by rw [← hY, sub_length y C d1 hdy]; omega
      have hx3 : HI w3 (.slice xo1 nx1 xc1) X := by
        unfold HI
        rw [hXl, ← hX]
        exact Holds.keep hp1.hx (fun q hq => hS3.low.block q hq)
      have hy3 : HI w3 (.slice yo1 ny1 yc1) Y := by
        unfold HI
        rw [hYl, ← hY]
        exact Holds.keep hp1.hy (fun q hq => hS3.low.block q hq)
      have HW : Hid ((∀ c ∈ X, w64 c) ∧ (∀ c ∈ Y, w64 c)) := (by
        refine ⟨fun c hc => hwx c ?_, fun c hc => hwy c ?_⟩
        · rw [← hX] at hc
          exact List.mem_of_mem_drop (List.mem_of_mem_take hc)
        · rw [← hY] at hc
          exact List.mem_of_mem_drop (List.mem_of_mem_take hc))
      obtain ⟨Q, hQ⟩ : ∃ Q, unq X Y = Q := ⟨_, rfl⟩
      obtain ⟨L, hL⟩ : ∃ L, lng Q = L := ⟨_, rfl⟩
      obtain ⟨n, hn⟩ : ∃ n, L.length = n := ⟨_, rfl⟩
      have HQ : Hid (unq X Y = Q) := hQ
      have HL : Hid (lng Q = L) := hL
      have HN : Hid (L.length = n) := hn
      have hQl : Q.length ≤ nx1 := by rw [← hQ, ← hXl]; exact unq_length' X Y
      have hLn : n ≤ nx1 := by rw [← hn, ← hL]; exact Nat.le_trans (pick_length _ _ _ _) hQl
      have HX : Hid (X.length ≤ 1048576 ∧ Y.length ≤ 1048576 ∧ Q.length ≤ 1048576) := (by refine ⟨?_, ?_, ?_⟩ <;> omega)
      have HK4 : Hid (wrk K1 (if L = [] then lp A C (kp 0 (sub x A b1) (sub y C d1)) else gos (pcs (pmid x y) x y f) A C b1 d1 A C L) = KF) := (by
        show _ = _
        have := HK2.out
        unfold pmid at this
        rw [hX, hY, hQ, hL] at this
        rw [hX, hY]
        exact this)
      have HGs : Hid (∀ KF, wrk K1 (gos (pcs (pmid x y) x y f) A C b1 d1 A C L) = KF → Gs (pcs (pmid x y) x y f) A C b1 d1 L A C K1 KF) := (by
        intro KF h
        have := Gs.start (rec := pcs (pmid x y) x y f) (x := x) (y := y) (K := K1) (KF := KF) (a := A) (b := b1) (c := C) (d := d1) (by omega) hbx (by omega) hdy
        rw [hX, hY, hQ, hL] at this
        exact this h)
      have hnl : n ≤ 4096 := by omega
      clear hX hY hXl hYl hQ hL hn HK2 hQl hLn
      obtain ⟨q0, q1, q2, q3⟩ := hQ3.cells
      go_wp2_with fail
      refine (Unique_f X Y _ _ w3 hx3 hy3 HX.out.1 HX.out.2.1 HW.out.1 HW.out.2 Q HQ).mono ?_
      rintro e w4 ⟨v4, rfl, hQr, hB4⟩
      obtain ⟨qo, qc, rfl⟩ := Holds.form hQr
      clear q0 q1 q2 q3 hx3 hy3 HW
      go_wp2_with fail
      refine (Longest_f Q _ w4 hQr HX.out.2.2 L HL).mono ?_
      rintro e w5 ⟨v5, rfl, hO, hB5⟩
      obtain ⟨lo, lc, rfl⟩ := (holds_of hO).form
      rw [HN.out] at hO ⊢
      have hB35 : Below w3.heap.size w3 w5 := hB4.trans (hB5.mono hB4.size)
      have hgB : g < w4.heap.size := by have := hS3.lt; have := hB4.size; omega
      obtain ⟨B, hB⟩ : ∃ B, w4.heap.size = B := ⟨_, rfl⟩
      rw [hB] at hO hgB
      have hQ5 := hQ3.low hB35
      have hS5 := hS3.keep hB35
      have hG5 := hG3.trans (low_grown hB35 (some g))
      clear hB hB4 hB5 hB35 hQ3 hS3 hG3 hQr HQ HL HX
      obtain ⟨q0, q1, q2, q3⟩ := hQ5.cells
      by_cases hn0 : n = 0
      · have e3 : ((n : Int) == 0) = true := by simp; omega
        have HK5 : Hid (wrk K1 (lp A C (kp 0 (sub x A b1) (sub y C d1))) = KF) := (by
          show _ = _
          have := HK4.out
          rw [if_pos (List.eq_nil_of_length_eq_zero (by rw [HN.out]; exact hn0))] at this
          exact this)
        clear hn0 HK4 HGs
        go_wp2_with fail
        refine (KeepMost_f x y W0 w5 g K1 A b1 C d1 xo1 nx1 xc1 yo1 ny1 yc1 ko1 kc1 hp1 hxl hyl hS5 KF HK5).mono ?_
        rintro e w6 ⟨rfl, hS6, hG6⟩
        have hG7 := hG5.trans hG6
        go_wp2
        (try simp only [Exit.inBlock, Exit.then])
        refine bodyPost_ret (results_none rfl _ _ _) rfl ?_
        exact ⟨rfl, hS6, hG7⟩
      · have e3 : ((n : Int) == 0) = false := by simp; omega
        have HG0 : Hid (Gs (pcs (pmid x y) x y f) A C b1 d1 (L.drop 0) A C K1 KF) := (by
          refine HGs.out KF ?_
          have := HK4.out
          rw [if_neg (fun h => hn0 (by rw [← HN.out, h]; rfl))] at this
          exact this)
        clear HK4 HGs
        have hBn := Bx2.new w5 0 0
        have hLn : Below w5.heap.size w5 (w5.alloc (.cells #[.int .i64 ((0 : Nat) : Int), .int .i64 ((0 : Nat) : Int)] 115)) := (Below.refl _ w5).alloc (Nat.le_refl _) _
        have hQ6 := hQ5.low hLn
        have hS6 := hS5.keep hLn
        have hG6 := hG5.trans (low_grown hLn (some g))
        have hO6 := owns_keep hO hLn
        have hw5 := hS5.low.size
        have hw6 := hS5.lt
        have hw7 := hG5.size
        have hw8 := hQ5.lt
        have hlo : Hid (∀ ad : Addr, lo = some ad → ad.block < w5.heap.size) := (by
          intro ad e
          rcases hO.2 with ⟨h, _⟩ | ⟨g', cap', cur, h, _, hcur, _⟩
          · cases h
            cases e
          · cases h
            cases e
            exact (Array.getElem?_eq_some_iff.1 hcur).1)
        clear hQ5 hS5 hG5 hO hLn q0 q1 q2 q3
        go_wp2
        go_loopw [24] (fun iv wr => ∃ (i bx cy a' c' : Nat) (K' : List Int), i ≤ n ∧ iv = .int .i64 i ∧ a' = A + bx ∧ c' = C + cy ∧ Ls W0 g x.length K' wr ∧ w.grownBy wr (some g) ∧ Qbx wr w.heap.size (.slice xo1 nx1 xc1) (.slice yo1 ny1 yc1) (.int .i64 C) (.slice ko1 nx1 kc1) ∧ Bx2 wr w5.heap.size bx cy ∧ wr.ownsRow B 115 2 (.slice lo n lc) n (prcells L) ∧ (i = 0 ∨ A < a') ∧ Hid (Gs (pcs (pmid x y) x y f) A C b1 d1 (L.drop i) a' c' K' KF)) (fun iv _ => n - (intOf iv).toNat)
        case atStart => exact ⟨0, 0, 0, A, C, K1, Nat.zero_le _, rfl, rfl, rfl, hS6, hG6, hQ6, hBn, hO6, .inl rfl, HG0⟩
        case round =>
          clear hQ6 hS6 hG6 hBn hO6 HG0
          obtain ⟨i, bx, cy, a', c', K', hi, rfl, ha', hc', hS, hG, hQ, hBb, hO, hia, HG⟩ := hrel
          have hwr := hS.low.size
          have hgr := hG.size
          have hlr := hBb.lt
          by_cases hlt : i < n
          · have hiL : i < L.length := by rw [HN.out]; exact hlt
            obtain ⟨p, hp⟩ : ∃ p, L[i] = p := ⟨_, rfl⟩
            have HG2 : Hid (Gs (pcs (pmid x y) x y f) A C b1 d1 (p :: L.drop (i + 1)) a' c' K' KF) := (by
              have := HG.out
              rw [List.drop_eq_getElem_cons hiL, hp] at this
              exact this)
            obtain ⟨pu, pv, hpu, hpv, q1, q2, q3, q4⟩ := HG2.out.head
            have HG3 : Hid (Gs (pcs (pmid x y) x y f) A C b1 d1 (L.drop (i + 1)) (A + pu + 1) (C + pv + 1) (wrk (wrk K' (pcs (pmid x y) x y f a' (A + pu) c' (C + pv))) (fp (A + pu) (C + pv) 1)) KF) := HG2.out.step hpu hpv
            have hAa := HG2.out.Aa
            have hCc := HG2.out.Cc
            obtain ⟨lb, lf, lcc, hle, _, hcl⟩ := Holds.at (holds_of hO) (by rw [prcells_length]; omega)
            cases hle
            have hlb : lb ≠ w5.heap.size := Nat.ne_of_lt (hlo.out _ rfl)
            have l0 : wr.cell? ⟨lb, lf + i * 2, none⟩ = some (.int .i64 (pu : Int)) := by
              obtain ⟨t1, t2⟩ := List.getElem?_eq_some_iff.1 (prcells_at L i hiL).1
              have := hcl _ t1
              rw [t2, hp, hpu, show 2 * i = i * 2 by omega] at this
              exact this
            have l1 : wr.cell? ⟨lb, lf + i * 2 + 1, none⟩ = some (.int .i64 (pv : Int)) := by
              obtain ⟨t1, t2⟩ := List.getElem?_eq_some_iff.1 (prcells_at L i hiL).2
              have := hcl _ t1
              rw [t2, hp, hpv, show 2 * i + 1 = i * 2 + 1 by omega] at this
              exact this
            clear hcl HG HG2 hpu hpv hp
            have i1 : 0 ≤ (i : Int) := by omega
            have i2 : (i : Int) < (n : Int) := by omega
            have hEn := Bx2.new wr pu pv
            have hLn : Below wr.heap.size wr (wr.alloc (.cells #[.int .i64 (pu : Int), .int .i64 (pv : Int)] 115)) := (Below.refl _ wr).alloc (Nat.le_refl _) _
            have hQ1 := hQ.low hLn
            have hS1 := hS.keep hLn
            have hG1 := hG.trans (low_grown hLn (some g))
            have hB1 := hBb.low hLn
            have hO1 := owns_keep hO hLn
            clear hQ hS hG hBb hO hLn
            obtain ⟨W3, hW3⟩ : ∃ W3, wr.alloc (.cells #[.int .i64 (pu : Int), .int .i64 (pv : Int)] 115) = W3 := ⟨_, rfl⟩
            rw [hW3] at hEn hQ1 hS1 hG1 hB1 hO1
            obtain ⟨u2, hu⟩ : ∃ u, A + pu = u := ⟨_, rfl⟩
            obtain ⟨v2, hv⟩ : ∃ v, C + pv = v := ⟨_, rfl⟩
            rw [hu, hv] at HG3
            rw [hu] at q1 q2
            rw [hv] at q3 q4
            obtain ⟨KK, hKK⟩ : ∃ KK, wrk K' (pcs (pmid x y) x y f a' u2 c' v2) = KK := ⟨_, rfl⟩
            have HKK : Hid (wrk K' (pcs (pmid x y) x y f a' u2 c' v2) = KK) := hKK
            rw [hKK] at HG3
            have hsz3 := hG1.size
            have hlt3 := hEn.lt
            have hcs : ∀ u : World, W3.grownBy u (some g) → u.cell? ⟨Bf, 0, none⟩ = some (.func (.func 66) #[] #[.pointer (some ⟨Bf, 0, none⟩)]) ∧ u.cell? ⟨w.heap.size, 0, none⟩ = some (.slice xo1 nx1 xc1) ∧ u.cell? ⟨w.heap.size, 1, none⟩ = some (.slice yo1 ny1 yc1) ∧ u.cell? ⟨w.heap.size, 2, none⟩ = some (.int .i64 (C : Int)) ∧ u.cell? ⟨w.heap.size, 3, none⟩ = some (.slice ko1 nx1 kc1) ∧ u.cell? ⟨wr.heap.size, 0, none⟩ = some (.int .i64 (pu : Int)) ∧ u.cell? ⟨wr.heap.size, 1, none⟩ = some (.int .i64 (pv : Int)) ∧ u.cell? ⟨w5.heap.size, 0, none⟩ = some (.int .i64 (bx : Int)) ∧ u.cell? ⟨w5.heap.size, 1, none⟩ = some (.int .i64 (cy : Int)) := fun u hu => by
              have hfb := hS1.low.grown hu hS1.low.size (fun k hk => by cases hk; exact hg.1)
              obtain ⟨t0, t1, t2, t3⟩ := (hQ1.keep hu (by simp; omega)).cells
              obtain ⟨t4, t5⟩ := (hEn.keep hu (by simp; omega)).cells
              obtain ⟨t6, t7⟩ := (hB1.keep hu (by simp; omega)).cells
              exact ⟨cell_below hfb hf0, t0, t1, t2, t3, t4, t5, t6, t7⟩
            obtain ⟨z0, z1, z2, z3, z4, z5, z6, z7, z8⟩ := hcs W3 (World.grownBy.refl _ _)
            have hLw : Low W3 W3 := Below.refl _ _
            go_wp2_with fail
            clear hW3 l0 l1
            refine wp_region_noPanic ?_
            refine wp_region_held_drew (S := fun u => W3.grownBy u (some g)) (by kernel_rfl) (grown_drewN (World.grownBy.refl W3 _) 1) (fun hHeld => ?_)
            refine go_take 0 28 _ (.func (.func 66) #[] #[.pointer (some ⟨Bf, 0, none⟩)]) rfl (by kernel_rfl) (by kernel_rfl) (by kernel_rfl) (by kernel_rfl) (fun _ _ _ h => h) (Or.inl ⟨by kernel_rfl, fun u hu => load_fn (hcs u hu).1 (.tmp 1) (by kernel_rfl) (by kernel_rfl)⟩) hHeld ?_
            simp only [Act.put, List.setIfInBounds_toArray, List.set_cons_zero, List.set_cons_succ]
            refine go_take 1 29 _ (.agg #[.slice xo1 nx1 xc1, .slice yo1 ny1 yc1, .int .i64 (C : Int), .slice ko1 nx1 kc1]) rfl (by kernel_rfl) (by kernel_rfl) (by kernel_rfl) (by kernel_rfl) (fun _ _ _ h => h) (Or.inl ⟨by kernel_rfl, fun u hu => load_pz (hQ1.keep hu (by simp; omega)) (.tmp 2) (by kernel_rfl) (by kernel_rfl)⟩) hHeld ?_
            simp only [Act.put, List.setIfInBounds_toArray, List.set_cons_zero, List.set_cons_succ]
            refine go_take 2 30 _ (.pointer (some ⟨wr.heap.size, 0, none⟩)) rfl (by kernel_rfl) (by kernel_rfl) (by kernel_rfl) (by kernel_rfl) (fun _ _ _ h => h) (Or.inl ⟨by kernel_rfl, fun u hu => by kernel_rfl⟩) hHeld ?_
            simp only [Act.put, List.setIfInBounds_toArray, List.set_cons_zero, List.set_cons_succ]
            refine go_take 3 31 _ (.int .i64 (pu : Int)) rfl (by kernel_rfl) (by kernel_rfl) (by kernel_rfl) (by kernel_rfl) (fun _ _ _ h => h) (Or.inl ⟨by kernel_rfl, fun u hu => load_int (hcs u hu).2.2.2.2.2.1 (.tmp 30) (by kernel_rfl) (by kernel_rfl)⟩) hHeld ?_
            simp only [Act.put, List.setIfInBounds_toArray, List.set_cons_zero, List.set_cons_succ]
            refine go_take 4 32 _ (.pointer (some ⟨wr.heap.size, 1, none⟩)) rfl (by kernel_rfl) (by kernel_rfl) (by kernel_rfl) (by kernel_rfl) (fun _ _ _ h => h) (Or.inl ⟨by kernel_rfl, fun u hu => by kernel_rfl⟩) hHeld ?_
            simp only [Act.put, List.setIfInBounds_toArray, List.set_cons_zero, List.set_cons_succ]
            refine go_take 5 33 _ (.int .i64 (pv : Int)) rfl (by kernel_rfl) (by kernel_rfl) (by kernel_rfl) (by kernel_rfl) (fun _ _ _ h => h) (Or.inl ⟨by kernel_rfl, fun u hu => load_int (hcs u hu).2.2.2.2.2.2.1 (.tmp 32) (by kernel_rfl) (by kernel_rfl)⟩) hHeld ?_
            simp only [Act.put, List.setIfInBounds_toArray, List.set_cons_zero, List.set_cons_succ]
            refine go_take 7 35 _ (.pointer (some ⟨w5.heap.size, 0, none⟩)) rfl (by kernel_rfl) (by kernel_rfl) (by kernel_rfl) (by kernel_rfl) (fun _ _ _ h => h) (Or.inl ⟨by kernel_rfl, fun u hu => by kernel_rfl⟩) hHeld ?_
            simp only [Act.put, List.setIfInBounds_toArray, List.set_cons_zero, List.set_cons_succ]
            refine go_take 8 36 _ (.int .i64 (bx : Int)) rfl (by kernel_rfl) (by kernel_rfl) (by kernel_rfl) (by kernel_rfl) (fun _ _ _ h => h) (Or.inl ⟨by kernel_rfl, fun u hu => load_int (hcs u hu).2.2.2.2.2.2.2.1 (.tmp 35) (by kernel_rfl) (by kernel_rfl)⟩) hHeld ?_
            simp only [Act.put, List.setIfInBounds_toArray, List.set_cons_zero, List.set_cons_succ]
            refine go_take 9 37 _ (.pointer (some ⟨w5.heap.size, 1, none⟩)) rfl (by kernel_rfl) (by kernel_rfl) (by kernel_rfl) (by kernel_rfl) (fun _ _ _ h => h) (Or.inl ⟨by kernel_rfl, fun u hu => by kernel_rfl⟩) hHeld ?_
            simp only [Act.put, List.setIfInBounds_toArray, List.set_cons_zero, List.set_cons_succ]
            refine go_take 10 38 _ (.int .i64 (cy : Int)) rfl (by kernel_rfl) (by kernel_rfl) (by kernel_rfl) (by kernel_rfl) (fun _ _ _ h => h) (Or.inl ⟨by kernel_rfl, fun u hu => load_int (hcs u hu).2.2.2.2.2.2.2.2 (.tmp 37) (by kernel_rfl) (by kernel_rfl)⟩) hHeld ?_
            simp only [Act.put, List.setIfInBounds_toArray, List.set_cons_zero, List.set_cons_succ]
            refine go_callE 6 34 _ rfl (by kernel_rfl) (by kernel_rfl) (by kernel_rfl) 72 (.func 72) #[.tmp 29, .tmp 31, .tmp 33] #[110, 3, 3] (by kernel_rfl) #[] (by kernel_rfl) #[.agg #[.slice xo1 nx1 xc1, .slice yo1 ny1 yc1, .int .i64 (C : Int), .slice ko1 nx1 kc1], .int .i64 (pu : Int), .int .i64 (pv : Int)] (by kernel_rfl) (enters_of Tryz.func72 (by kernel_rfl) rfl) _ (upTo_held hp1 pu pv u2 v2 (by omega) (by omega) hu hv W3 _ (Below.dN hLw 1)) ?_
            rintro _ wd hHeld ⟨xo2, nx2, xc2, yo2, ny2, yc2, ko2, kc2, rfl, hp2, hlw⟩
            simp only [Act.put, List.setIfInBounds_toArray, List.set_cons_zero, List.set_cons_succ]
            refine go_callE 11 39 _ rfl (by kernel_rfl) (by kernel_rfl) (by kernel_rfl) 73 (.func 73) #[.tmp 34, .tmp 36, .tmp 38] #[110, 3, 3] (by kernel_rfl) #[] (by kernel_rfl) #[.agg #[.slice xo2 nx2 xc2, .slice yo2 ny2 yc2, .int .i64 (C : Int), .slice ko2 nx2 kc2], .int .i64 (bx : Int), .int .i64 (cy : Int)] (by kernel_rfl) (enters_of Tryz.func73 (by kernel_rfl) rfl) _ (from_held hp2 hyl bx cy a' c' q1 q3 ha'.symm hc'.symm W3 _ hlw) ?_
            rintro _ we hHeld ⟨xo3, nx3, xc3, yo3, ny3, yc3, ko3, kc3, rfl, hp3, hlw3⟩
            simp only [Act.put, List.setIfInBounds_toArray, List.set_cons_zero, List.set_cons_succ]
            refine go_callE 12 40 _ rfl (by kernel_rfl) (by kernel_rfl) (by kernel_rfl) 66 (.tmp 28) #[.tmp 39] #[110] (by kernel_rfl) #[.pointer (some ⟨Bf, 0, none⟩)] (by kernel_rfl) #[.agg #[.slice xo3 nx3 xc3, .slice yo3 ny3 yc3, .int .i64 (c' : Int), .slice ko3 nx3 kc3]] (by kernel_rfl) (enters_of Tryz.func66 (by kernel_rfl) rfl) _ (call_held hlw3 (ih we K' (hS1.keep hlw3) a' u2 c' v2 xo3 nx3 xc3 yo3 ny3 yc3 ko3 kc3 hp3 (by omega) KK HKK)) ?_
            rintro _ wg hHeld ⟨rfl, hS4⟩
            simp only [Act.put, List.setIfInBounds_toArray, List.set_cons_zero, List.set_cons_succ]
            refine wpAnyH_done (by kernel_rfl) ?_ _
            refine NoPanic.normal ?_
            have hQ4 := hQ1.keep hHeld (by simp; omega)
            have hE4 := hEn.keep hHeld (by simp; omega)
            have hB4 := hB1.keep hHeld (by simp; omega)
            have hO4 := holds_grown hO1 hHeld hgB
            have hG4 := hG1.trans hHeld
            clear hcs z0 z1 z2 z3 z4 z5 z6 z7 z8 hHeld hQ1 hEn hB1 hO1 hG1 hS1 hLw hlw hlw3 hp2 hp3
            obtain ⟨q0, q1', q2', q3'⟩ := hQ4.cells
            obtain ⟨t4, t5⟩ := hE4.cells
            go_wp2_with fail
            refine (Keep_1 KK xo1 nx1 xc1 yo1 ny1 yc1 A C ko1 kc1 wg pu pv hS4 hp1.at' (by omega) (by omega) (by omega) (by omega)).mono ?_
            rintro e wh ⟨rfl, hS5, hG5⟩
            have hQ5 := hQ4.keep hG5 (by simp; omega)
            have hE5 := hE4.keep hG5 (by simp; omega)
            have hB5 := hB4.keep hG5 (by simp; omega)
            have hO5 := holds_grown hO4 hG5 hgB
            have hG6 := hG4.trans hG5
            rw [hu, hv] at hS5
            clear q0 q1' q2' q3' t4 t5 hQ4 hE4 hB4 hO4 hG4 hG5 hS4
            obtain ⟨t4, t5⟩ := hE5.cells
            obtain ⟨t6, t7⟩ := hB5.cells
            have f1 := hB5.frozen
            have hl5 := hB5.lt
            have hs6 := hG6.size
            have hs5 := hS5.low.size
            have hB6 := hB5.put (pu + 1) (pv + 1)
            have hS6 := ls_other (ls_other hS5 (g := w5.heap.size) (by omega) (by omega) 0 (.int .i64 ((pu + 1 : Nat) : Int))) (g := w5.heap.size) (by omega) (by omega) 1 (.int .i64 ((pv + 1 : Nat) : Int))
            have hgs : wh.grownBy ((wh.setCell ⟨w5.heap.size, 0, none⟩ (.int .i64 ((pu + 1 : Nat) : Int))).setCell ⟨w5.heap.size, 1, none⟩ (.int .i64 ((pv + 1 : Nat) : Int))) (some w5.heap.size) := (grown_set wh w5.heap.size 0 _).trans (grown_set _ w5.heap.size 1 _)
            have hQ6 := hQ5.keep hgs (by simp; omega)
            have hG7 := grown_new (grown_new hG6 (B := w5.heap.size) (by omega) 0 (.int .i64 ((pu + 1 : Nat) : Int))) (B := w5.heap.size) (by omega) 1 (.int .i64 ((pv + 1 : Nat) : Int))
            have hO6 : ((wh.setCell ⟨w5.heap.size, 0, none⟩ (.int .i64 ((pu + 1 : Nat) : Int))).setCell ⟨w5.heap.size, 1, none⟩ (.int .i64 ((pv + 1 : Nat) : Int))).ownsRow B 115 2 (.slice (some ⟨lb, lf, none⟩) n lc) n (prcells L) := hO5.kept hgs (.inr (fun e => hlb (by simp [Value.ownBlock] at e; exact e)))
            go_wp2
            go_roundw
            case rel => exact ⟨i + 1, pu + 1, pv + 1, u2 + 1, v2 + 1, _, by omega, by go_num, by omega, by omega, hS6, hG7, hQ6, hB6, hO6, .inr (by omega), HG3⟩
            case measure => simp [intOf]; omega
          · obtain rfl : i = n := by omega
            have hbb := HG.out.ab'
            have hdd := HG.out.cd
            have hAa := HG.out.Aa
            have HE : Hid (wrk K' (pcs (pmid x y) x y f a' b1 c' d1) = KF) := (by
              have := HG.out
              rw [List.drop_of_length_le (by rw [HN.out]; exact Nat.le_refl _)] at this
              exact this.end')
            have hcs : ∀ u : World, wr.grownBy u (some g) → u.cell? ⟨Bf, 0, none⟩ = some (.func (.func 66) #[] #[.pointer (some ⟨Bf, 0, none⟩)]) ∧ u.cell? ⟨w5.heap.size, 0, none⟩ = some (.int .i64 (bx : Int)) ∧ u.cell? ⟨w5.heap.size, 1, none⟩ = some (.int .i64 (cy : Int)) := fun u hu => by
              have hfb := hS.low.grown hu hS.low.size (fun k hk => by cases hk; exact hg.1)
              obtain ⟨t6, t7⟩ := (hBb.keep hu (by simp; omega)).cells
              exact ⟨cell_below hfb hf0, t6, t7⟩
            go_wp2_with fail
            refine wp_region_noPanic ?_
            refine wp_region_held_drew (S := fun u => wr.grownBy u (some g)) (by kernel_rfl) (grown_drewN (World.grownBy.refl wr _) 1) (fun hHeld => ?_)
            refine go_take 0 55 _ (.func (.func 66) #[] #[.pointer (some ⟨Bf, 0, none⟩)]) rfl (by kernel_rfl) (by kernel_rfl) (by kernel_rfl) (by kernel_rfl) (fun _ _ _ h => h) (Or.inl ⟨by kernel_rfl, fun u hu => load_fn (hcs u hu).1 (.tmp 1) (by kernel_rfl) (by kernel_rfl)⟩) hHeld ?_
            simp only [Act.put, List.setIfInBounds_toArray, List.set_cons_zero, List.set_cons_succ]
            refine go_take 1 56 _ (.agg #[.slice xo1 nx1 xc1, .slice yo1 ny1 yc1, .int .i64 (C : Int), .slice ko1 nx1 kc1]) rfl (by kernel_rfl) (by kernel_rfl) (by kernel_rfl) (by kernel_rfl) (fun _ _ _ h => h) (Or.inl ⟨by kernel_rfl, fun u hu => load_pz (hQ.keep hu (by simp; omega)) (.tmp 2) (by kernel_rfl) (by kernel_rfl)⟩) hHeld ?_
            simp only [Act.put, List.setIfInBounds_toArray, List.set_cons_zero, List.set_cons_succ]
            refine go_take 2 57 _ (.pointer (some ⟨w5.heap.size, 0, none⟩)) rfl (by kernel_rfl) (by kernel_rfl) (by kernel_rfl) (by kernel_rfl) (fun _ _ _ h => h) (Or.inl ⟨by kernel_rfl, fun u hu => by kernel_rfl⟩) hHeld ?_
            simp only [Act.put, List.setIfInBounds_toArray, List.set_cons_zero, List.set_cons_succ]
            refine go_take 3 58 _ (.int .i64 (bx : Int)) rfl (by kernel_rfl) (by kernel_rfl) (by kernel_rfl) (by kernel_rfl) (fun _ _ _ h => h) (Or.inl ⟨by kernel_rfl, fun u hu => load_int (hcs u hu).2.1 (.tmp 57) (by kernel_rfl) (by kernel_rfl)⟩) hHeld ?_
            simp only [Act.put, List.setIfInBounds_toArray, List.set_cons_zero, List.set_cons_succ]
            refine go_take 4 59 _ (.pointer (some ⟨w5.heap.size, 1, none⟩)) rfl (by kernel_rfl) (by kernel_rfl) (by kernel_rfl) (by kernel_rfl) (fun _ _ _ h => h) (Or.inl ⟨by kernel_rfl, fun u hu => by kernel_rfl⟩) hHeld ?_
            simp only [Act.put, List.setIfInBounds_toArray, List.set_cons_zero, List.set_cons_succ]
            refine go_take 5 60 _ (.int .i64 (cy : Int)) rfl (by kernel_rfl) (by kernel_rfl) (by kernel_rfl) (by kernel_rfl) (fun _ _ _ h => h) (Or.inl ⟨by kernel_rfl, fun u hu => load_int (hcs u hu).2.2 (.tmp 59) (by kernel_rfl) (by kernel_rfl)⟩) hHeld ?_
            simp only [Act.put, List.setIfInBounds_toArray, List.set_cons_zero, List.set_cons_succ]
            refine go_callE 6 61 _ rfl (by kernel_rfl) (by kernel_rfl) (by kernel_rfl) 73 (.func 73) #[.tmp 56, .tmp 58, .tmp 60] #[110, 3, 3] (by kernel_rfl) #[] (by kernel_rfl) #[.agg #[.slice xo1 nx1 xc1, .slice yo1 ny1 yc1, .int .i64 (C : Int), .slice ko1 nx1 kc1], .int .i64 (bx : Int), .int .i64 (cy : Int)] (by kernel_rfl) (enters_of Tryz.func73 (by kernel_rfl) rfl) _ (from_held hp1 hyl bx cy a' c' hbb hdd ha'.symm hc'.symm wr _ (Below.dN (Below.refl _ wr) 1)) ?_
            rintro _ we hHeld ⟨xo3, nx3, xc3, yo3, ny3, yc3, ko3, kc3, rfl, hp3, hlw3⟩
            simp only [Act.put, List.setIfInBounds_toArray, List.set_cons_zero, List.set_cons_succ]
            refine go_callE 7 62 _ rfl (by kernel_rfl) (by kernel_rfl) (by kernel_rfl) 66 (.tmp 55) #[.tmp 61] #[110] (by kernel_rfl) #[.pointer (some ⟨Bf, 0, none⟩)] (by kernel_rfl) #[.agg #[.slice xo3 nx3 xc3, .slice yo3 ny3 yc3, .int .i64 (c' : Int), .slice ko3 nx3 kc3]] (by kernel_rfl) (enters_of Tryz.func66 (by kernel_rfl) rfl) _ (call_held hlw3 (ih we K' (hS.keep hlw3) a' b1 c' d1 xo3 nx3 xc3 yo3 ny3 yc3 ko3 kc3 hp3 (by omega) KF HE)) ?_
            rintro _ wg hHeld ⟨rfl, hS4⟩
            simp only [Act.put, List.setIfInBounds_toArray, List.set_cons_zero, List.set_cons_succ]
            refine wpAnyH_done (by kernel_rfl) ?_ _
            refine NoPanic.normal ?_
            have hG8 := hG.trans hHeld
            go_wp2
            go_end0
            exact ⟨rfl, hS4, hG8⟩
end Go.Proofs.YtjhanfiohfakoaaGreatDoor

/- None of the reference, walked. -/
set_option maxRecDepth 20000
namespace Go.Proofs.YtjhanfiohfakoaaGreatDoor
open Go.RowKit

set_option maxRecDepth 10000 in
theorem None_f (n : Nat) (w : World) (hn : n ≤ 1048576) :
    Calls Tryz.prog 34 #[.int .i64 (n : Int)] w fun e w' => e = .returned (.slice (some ⟨w.heap.size, 0, none⟩) n n) ∧ w'.ownsRow w.heap.size 3 1 (.slice (some ⟨w.heap.size, 0, none⟩) n n) n (icells (List.replicate n (-1))) ∧ Below w.heap.size w w' := by
  have hmk := run_makeN (T := 35) Tryz.underlying35 infoInt (by decide) (n : Int) n rfl (by omega)
  have hrow := World.ownsRow_lit (base := w.heap.size) (e := 3) (size := 1) w (madeCells #[.int .i64 0] n) n (Nat.le_refl _) (by unfold maxLen; omega) (by rw [size_madeCells]; simp)
  rw [madeL] at hrow
  go_enter Tryz.func34, Tryz.ntmps34
  go_wp2
  go_loopw [4] (fun iv wr => ∃ (i : Nat) (xs : List Int), i ≤ n ∧ iv = .int .i64 i ∧ wr.ownsRow w.heap.size 3 1 (.slice (some ⟨w.heap.size, 0, none⟩) n n) n (icells xs) ∧ Below w.heap.size w wr ∧ Hid (xs.take i = List.replicate i (-1))) (fun iv _ => n - (intOf iv).toNat)
  case atStart => exact ⟨0, List.replicate n 0, Nat.zero_le _, rfl, by simpa [icells] using hrow, (Below.refl _ w).alloc (Nat.le_refl _) _, by show _ = _; simp⟩
  case round =>
    clear hmk hrow
    obtain ⟨i, xs, hi, rfl, hO, hB, HX⟩ := hrel
    have hxs : xs.length = n := by have := hO.1; rw [icells_length, Nat.mul_one] at this; exact this
    have hs := hB.size
    by_cases hil : i < n
    · have y0 := hO.cellAt i (by omega)
      rw [List.getElem?_eq_getElem (by rw [icells_length]; omega)] at y0
      have f0 := hO.frozenAt i
      obtain ⟨p1, g1⟩ := hO.stored i (.int .i64 (-1))
      have e : (icells xs).set i (.int .i64 (-1)) = icells (xs.set i (-1)) := by simp [icells, List.map_set]
      rw [e] at p1
      have hB' : Below w.heap.size w (wr.setCell ⟨w.heap.size, i, none⟩ (.int .i64 (-1))) := hB.grown g1 hs (fun j hj => owns_ge hO (by simpa [Value.ownBlock] using hj))
      have HX2 : Hid ((xs.set i (-1)).take (i + 1) = List.replicate (i + 1) (-1)) := (by
        show _ = _
        rw [List.take_succ_eq_append_getElem (by rw [List.length_set]; omega), List.getElem_set_self, List.take_set_of_le (Nat.le_refl _), HX.out, List.replicate_succ'])
      clear e HX
      have i1 : 0 ≤ (i : Int) := by omega
      have i2 : (i : Int) < (n : Int) := by omega
      go_wp2
      go_roundw
      case rel => exact ⟨i + 1, _, by omega, by go_num, p1, hB', HX2⟩
      case measure => simp [intOf]; omega
    · obtain rfl : i = n := by omega
      have e : xs = List.replicate i (-1) := by
        have := HX.out
        rw [List.take_of_length_le (by omega)] at this
        exact this
      rw [e] at hO
      clear e HX hxs
      go_wp2
      go_ret
      exact ⟨rfl, hO, hB⟩
end Go.Proofs.YtjhanfiohfakoaaGreatDoor

/- The reference's Trim, walked. -/
set_option maxRecDepth 20000
namespace Go.Proofs.YtjhanfiohfakoaaGreatDoor
open Go.RowKit

/-- a piece as a value, in a box -/
def pcV (a b c d : Nat) : Value := .agg #[.int .i64 a, .int .i64 b, .int .i64 c, .int .i64 d]
def Pbox (u : World) (B : Nat) (a b c d : Nat) : Prop := u.heap[B]? = some (.cells #[.int .i64 (a : Int), .int .i64 (b : Int), .int .i64 (c : Int), .int .i64 (d : Int)] 75 (0, 0))
theorem Pbox.cells {u : World} {B a b c d : Nat} (h : Pbox u B a b c d) : u.cell? ⟨B, 0, none⟩ = some (.int .i64 (a : Int)) ∧ u.cell? ⟨B, 1, none⟩ = some (.int .i64 (b : Int)) ∧ u.cell? ⟨B, 2, none⟩ = some (.int .i64 (c : Int)) ∧ u.cell? ⟨B, 3, none⟩ = some (.int .i64 (d : Int)) := by
  refine ⟨?_, ?_, ?_, ?_⟩ <;> rw [Lib.cell_of_heap h] <;> rfl
theorem Pbox.frozen {u : World} {B a b c d : Nat} (h : Pbox u B a b c d) (j : Nat) : u.frozen? ⟨B, j, none⟩ = false := by
  unfold World.frozen?
  rw [h]
  rfl
/-- the row of what is kept, and a piece beside it -/
structure Tr (W0 : World) (n : Nat) (K : List Int) (B a b c d : Nat) (u : World) : Prop where
  ls : Ls W0 W0.heap.size n K u
  box : Pbox u B a b c d
  ge : W0.heap.size < B
section
variable {W0 : World} {n : Nat} {K : List Int} {B a b c d : Nat} {u : World}
theorem Tr.put (h : Tr W0 n K B a b c d u) (i : Nat) (z : Int) : Tr W0 n (K.set i z) B a b c d (u.setCell ⟨W0.heap.size, i, none⟩ (.int .i64 z)) :=
  ⟨h.ls.set i z, (heap_setCell_other u _ B _ (fun e => by have := h.ge; simp at e; omega)).trans h.box, h.ge⟩
theorem Tr.set0 (h : Tr W0 n K B a b c d u) (a' : Nat) (z : Int) (hz : z = a') : Tr W0 n K B a' b c d (u.setCell ⟨B, 0, none⟩ (.int .i64 z)) := by subst hz; exact ⟨ls_other h.ls (Nat.ne_of_lt h.ge) (Nat.le_of_lt h.ge) _ _, heap_setCell_same u B 0 _ _ _ h.box, h.ge⟩
theorem Tr.set1 (h : Tr W0 n K B a b c d u) (b' : Nat) (z : Int) (hz : z = b') : Tr W0 n K B a b' c d (u.setCell ⟨B, 1, none⟩ (.int .i64 z)) := by subst hz; exact ⟨ls_other h.ls (Nat.ne_of_lt h.ge) (Nat.le_of_lt h.ge) _ _, heap_setCell_same u B 1 _ _ _ h.box, h.ge⟩
theorem Tr.set2 (h : Tr W0 n K B a b c d u) (c' : Nat) (z : Int) (hz : z = c') : Tr W0 n K B a b c' d (u.setCell ⟨B, 2, none⟩ (.int .i64 z)) := by subst hz; exact ⟨ls_other h.ls (Nat.ne_of_lt h.ge) (Nat.le_of_lt h.ge) _ _, heap_setCell_same u B 2 _ _ _ h.box, h.ge⟩
theorem Tr.set3 (h : Tr W0 n K B a b c d u) (d' : Nat) (z : Int) (hz : z = d') : Tr W0 n K B a b c d' (u.setCell ⟨B, 3, none⟩ (.int .i64 z)) := by subst hz; exact ⟨ls_other h.ls (Nat.ne_of_lt h.ge) (Nat.le_of_lt h.ge) _ _, heap_setCell_same u B 3 _ _ _ h.box, h.ge⟩
theorem Tr.at (h : Tr W0 n K B a b c d u) {i : Nat} (hi : i < n) : ∃ z, u.cell? ⟨W0.heap.size, i, none⟩ = some (.int .i64 z) ∧ u.frozen? ⟨W0.heap.size, i, none⟩ = false := by
  have hl := h.ls.len
  exact ⟨K[i], h.ls.at (List.getElem?_eq_getElem (by omega)), h.ls.own.frozenAt i⟩
theorem Tr.drewN (h : Tr W0 n K B a b c d u) (k : Nat) : Tr W0 n K B a b c d (u.drewN k) := ⟨h.ls.drewN k, h.box, h.ge⟩
end

set_option maxRecDepth 10000 in
set_option maxHeartbeats 4000000 in
theorem Trim_f (x y : List Int) (W0 w : World) (vx vy : Value) (hx : HI W0 vx x) (hy : HI W0 vy y) (hxl : x.length ≤ 4096) (hyl : y.length ≤ 4096) (K : List Int) (hS : Ls W0 W0.heap.size x.length K w) (a b c d : Nat) (hab : a ≤ b) (hb : b ≤ x.length) (hcd : c ≤ d) (hd : d ≤ y.length) (hg : W0.heap.size < w.heap.size) :
    Calls Tryz.prog 38 #[.slice (some ⟨W0.heap.size, 0, none⟩) x.length x.length, vx, vy, pcV a b c d] w fun e w' => ∃ k m, k = tf x y a b c d ∧ m = tb x y (a + k) b (c + k) d ∧ e = .returned (pcV (a + k) (b - m) (c + k) (d - m)) ∧ Ls W0 W0.heap.size x.length (wrk K (fp a c k ++ bp b d m)) w' ∧ w.grownBy w' (some W0.heap.size) := by
  obtain ⟨xo, xc, rfl⟩ := Holds.form hx
  obtain ⟨yo, yc, rfl⟩ := Holds.form hy
  obtain ⟨k, hk⟩ : ∃ k, tf x y a b c d = k := ⟨_, rfl⟩
  obtain ⟨m, hm⟩ : ∃ m, tb x y (a + k) b (c + k) d = m := ⟨_, rfl⟩
  have hkl := tf_le x y a b c d
  have hml := tb_le x y (a + k) b (c + k) d
  rw [hk] at hkl
  rw [hm] at hml
  obtain ⟨KF, hKF⟩ : ∃ KF, wrk K (fp a c k) = KF := ⟨_, rfl⟩
  obtain ⟨A1, hA1⟩ : ∃ A1, a + k = A1 := ⟨_, rfl⟩
  obtain ⟨C1, hC1⟩ : ∃ C1, c + k = C1 := ⟨_, rfl⟩
  have HK : Hid (a + tf x y a b c d = A1 ∧ c + tf x y a b c d = C1 ∧ wrk K (fp a c (tf x y a b c d)) = KF) := ⟨by rw [hk, hA1], by rw [hk, hC1], by rw [hk, hKF]⟩
  have HM : Hid (tb x y A1 b C1 d = m) := (by rw [hA1, hC1] at hm; exact hm)
  have HFin : Hid (k = tf x y a b c d ∧ m = tb x y (a + k) b (c + k) d ∧ A1 = a + k ∧ C1 = c + k ∧ wrk KF (bp b d m) = wrk K (fp a c k ++ bp b d m)) := ⟨hk.symm, hm.symm, hA1.symm, hC1.symm, by rw [wrk_append, hKF]⟩
  have hAb : A1 ≤ b ∧ C1 ≤ d ∧ m ≤ b - A1 ∧ m ≤ d - C1 := by omega
  obtain ⟨hAb, hCd, hmb, hmd⟩ := hAb
  clear hk hm hKF hkl hml hA1 hC1
  have hT0 : Tr W0 x.length K w.heap.size a b c d ((w.alloc (.cells #[.int .i64 a, .int .i64 b, .int .i64 c, .int .i64 d] 75)).alloc (.cells #[.int .i64 0, .int .i64 0, .int .i64 0, .int .i64 0] 75)) :=
    ⟨hS.keep (((Below.refl _ w).alloc (Nat.le_refl _) _).alloc (by simp) _), (Below.heap_alloc _ _ _ (by simp)).trans (_root_.Go.heap_alloc_new w _), hg⟩
  have hR0 := alloc_second w (.cells #[.int .i64 a, .int .i64 b, .int .i64 c, .int .i64 d] 75) (.cells #[.int .i64 0, .int .i64 0, .int .i64 0, .int .i64 0] 75)
  have hG0 : w.grownBy ((w.alloc (.cells #[.int .i64 a, .int .i64 b, .int .i64 c, .int .i64 d] 75)).alloc (.cells #[.int .i64 0, .int .i64 0, .int .i64 0, .int .i64 0] 75)) (some W0.heap.size) := low_grown (((Below.refl _ w).alloc (Nat.le_refl _) _).alloc (by simp) _) _
  have hgB : W0.heap.size ≠ w.heap.size := by omega
  have hBg : w.heap.size ≠ W0.heap.size := by omega
  unfold pcV
  go_enter Tryz.func38, Tryz.ntmps38
  go_wp2
  go_loopw [] (fun wr => ∃ (a' c' : Nat) (K' : List Int), a' ≤ b ∧ c' ≤ d ∧ Tr W0 x.length K' w.heap.size a' b c' d wr ∧ wr.heap[w.heap.size + 1]? = some (.cells #[.int .i64 0, .int .i64 0, .int .i64 0, .int .i64 0] 75 (0, 0)) ∧ w.grownBy wr (some W0.heap.size) ∧ Hid (a' + tf x y a' b c' d = A1 ∧ c' + tf x y a' b c' d = C1 ∧ wrk K' (fp a' c' (tf x y a' b c' d)) = KF)) (fun wr => b - (intOf ((wr.cell? ⟨w.heap.size, 0, none⟩).getD undef)).toNat)
  case atStart => exact ⟨a, c, K, hab, hcd, hT0, hR0, hG0, HK⟩
  case round =>
    clear hT0 hR0 hG0 HK hS
    obtain ⟨a', c', K', ha', hc', hT, hR, hG, HV⟩ := hrel
    obtain ⟨c0, c1, c2, c3⟩ := hT.box.cells
    obtain ⟨r, hr⟩ : ∃ r, decide (a' < b ∧ c' < d ∧ x[a']? = y[c']?) = r := ⟨_, rfl⟩
    have HRr : Hid (decide (a' < b ∧ c' < d ∧ x[a']? = y[c']?) = r) := hr
    clear hr
    have hlow := hT.ls.low
    have a1 : 0 ≤ (a' : Int) := by omega
    have c4 : 0 ≤ (c' : Int) := by omega
    go_wp2_with fail
    go_cut [33] from 9 to 47 (fun z wz => z = .bool r ∧ ∃ q, wz = wr.drewN q)
    case first =>
      by_cases h1 : a' < b
      · have e1 : decide ((a' : Int) < (b : Int)) = true := decide_eq_true (by omega)
        by_cases h2 : c' < d
        · have e2 : decide ((c' : Int) < (d : Int)) = true := decide_eq_true (by omega)
          obtain ⟨xb, xf, rfl, _, hcx⟩ := HI.at (HI.keep hx hlow (Nat.le_refl _)) (by omega)
          obtain ⟨yb, yf, rfl, _, hcy⟩ := HI.at (HI.keep hy hlow (Nat.le_refl _)) (by omega)
          have x0 := hcx a' (by omega)
          have y0 := hcy c' (by omega)
          obtain ⟨zx, hzx⟩ : ∃ z, x[a'] = z := ⟨_, rfl⟩
          obtain ⟨zy, hzy⟩ : ∃ z, y[c'] = z := ⟨_, rfl⟩
          rw [hzx] at x0
          rw [hzy] at y0
          have a2 : (a' : Int) < (x.length : Int) := by omega
          have c5 : (c' : Int) < (y.length : Int) := by omega
          have e3 : (zx == zy) = r := by
            rw [← HRr.out, List.getElem?_eq_getElem (by omega), List.getElem?_eq_getElem (by omega), hzx, hzy]
            by_cases q : zx = zy <;> simp [h1, h2, q]
          clear hcx hcy hzx hzy HRr
          go_big_quiet (fail)
          go_wp2
          go_meet
          case rel => exact ⟨rfl, _, rfl⟩
        · have e2 : decide ((c' : Int) < (d : Int)) = false := decide_eq_false (by omega)
          obtain rfl : r = false := by rw [← HRr.out]; simp [h2]
          go_big_quiet (fail)
          go_wp2
          go_meet
          case rel => exact ⟨rfl, _, rfl⟩
      · have e1 : decide ((a' : Int) < (b : Int)) = false := decide_eq_false (by omega)
        obtain rfl : r = false := by rw [← HRr.out]; simp [h1]
        go_big_quiet (fail)
        go_wp2
        go_meet
        case rel => exact ⟨rfl, _, rfl⟩
    case rest =>
      obtain ⟨rfl, q, rfl⟩ := hcut
      have hTq := hT.drewN q
      have hGq := grown_drewN hG q
      have hRq : (wr.drewN q).heap[w.heap.size + 1]? = some (.cells #[.int .i64 0, .int .i64 0, .int .i64 0, .int .i64 0] 75 (0, 0)) := hR
      have cw := c0
      clear c0 c1 c2 c3 hT hG hR hlow
      generalize wr.drewN q = u0 at hTq hGq hRq ⊢
      obtain ⟨c0, c1, c2, c3⟩ := hTq.box.cells
      have f0 := hTq.box.frozen
      cases r with
      | true =>
        have hh := of_decide_eq_true HRr.out
        obtain ⟨h1, h2, h3⟩ := hh
        have HV2 : Hid (a' + 1 + tf x y (a' + 1) b (c' + 1) d = A1 ∧ c' + 1 + tf x y (a' + 1) b (c' + 1) d = C1 ∧ wrk (K'.set a' (c' : Int)) (fp (a' + 1) (c' + 1) (tf x y (a' + 1) b (c' + 1) d)) = KF) := (by
          have := HV.out
          rw [tf_eq, if_pos ⟨h1, h2, h3⟩, fp, wrk_cons] at this
          obtain ⟨q1, q2, q3⟩ := this
          exact ⟨by omega, by omega, by simpa using q3⟩)
        clear HV h3 HRr
        obtain ⟨z0, y0, g0⟩ := hTq.at (i := a') (by omega)
        have hT1 := hTq.put a' (c' : Int)
        have hT2 := hT1.set0 (a' + 1) ((a' : Int) + 1) (by omega)
        have hT3 := hT2.set2 (c' + 1) ((c' : Int) + 1) (by omega)
        obtain ⟨d0, d1, d2, d3⟩ := hT1.box.cells
        have f1 := hT1.box.frozen
        obtain ⟨e0, e1, e2, e3⟩ := hT2.box.cells
        have f2 := hT2.box.frozen
        have hG3 := grown_new (grown_new (hGq.trans (grown_set u0 W0.heap.size a' (.int .i64 (c' : Int)))) (Nat.le_refl _) 0 (.int .i64 ((a' : Int) + 1))) (Nat.le_refl _) 2 (.int .i64 ((c' : Int) + 1))
        have a2 : (a' : Int) < (x.length : Int) := by omega
        go_wp2
        refine ⟨⟨a' + 1, c' + 1, _, h1, h2, hT3, (heap_setCell_other _ _ _ _ (by simp)).trans ((heap_setCell_other _ _ _ _ (by simp)).trans ((heap_setCell_other _ _ _ _ (by simp; omega)).trans hRq)), hG3, HV2⟩, ?_⟩
        rw [cw, hT3.box.cells.1]
        simp [intOf]
        omega
      | false =>
        have hh := of_decide_eq_false HRr.out
        have hz : tf x y a' b c' d = 0 := by rw [tf_eq, if_neg hh]
        obtain ⟨q1, q2, q3⟩ := HV.out
        rw [hz] at q1 q2 q3
        have q3' : K' = KF := q3
        obtain rfl : A1 = a' := by omega
        obtain rfl : C1 = c' := by omega
        subst q3'
        clear hh hz q1 q2 q3 HV HRr cw
        go_wp2
        go_loopw [] (fun wr => ∃ (b' d' : Nat) (K2 : List Int), A1 ≤ b' ∧ b' ≤ b ∧ C1 ≤ d' ∧ d' ≤ d ∧ Tr W0 x.length K2 w.heap.size (A1) b' (C1) d' wr ∧ wr.heap[w.heap.size + 1]? = some (.cells #[.int .i64 0, .int .i64 0, .int .i64 0, .int .i64 0] 75 (0, 0)) ∧ w.grownBy wr (some W0.heap.size) ∧ Hid (b' - tb x y (A1) b' (C1) d' = b - m ∧ d' - tb x y (A1) b' (C1) d' = d - m ∧ wrk K2 (bp b' d' (tb x y (A1) b' (C1) d')) = wrk K' (bp b d m))) (fun wr => (intOf ((wr.cell? ⟨w.heap.size, 1, none⟩).getD undef)).toNat)
        case atStart => exact ⟨b, d, K', by omega, Nat.le_refl _, by omega, Nat.le_refl _, hTq, hRq, hGq, ⟨by rw [HM.out], by rw [HM.out], by rw [HM.out]⟩⟩
        case round =>
          clear hTq hRq hGq c0 c1 c2 c3 f0 HM
          obtain ⟨b', d', K2, hb1, hb2, hd1, hd2, hT, hR, hG, HV⟩ := hrel
          obtain ⟨c0, c1, c2, c3⟩ := hT.box.cells
          obtain ⟨r, hr⟩ : ∃ r, decide (A1 < b' ∧ C1 < d' ∧ x[b' - 1]? = y[d' - 1]?) = r := ⟨_, rfl⟩
          have HRr : Hid (decide (A1 < b' ∧ C1 < d' ∧ x[b' - 1]? = y[d' - 1]?) = r) := hr
          clear hr
          have hlow := hT.ls.low
          have a1' : 0 ≤ (b' : Int) - 1 ∨ b' = 0 := by omega
          go_wp2_with fail
          go_cut [74] from 48 to 90 (fun z wz => z = .bool r ∧ ∃ q, wz = wr.drewN q)
          case first =>
            by_cases h1 : A1 < b'
            · have e1 : decide ((A1 : Int) < (b' : Int)) = true := decide_eq_true (by omega)
              by_cases h2 : C1 < d'
              · have e2 : decide ((C1 : Int) < (d' : Int)) = true := decide_eq_true (by omega)
                obtain ⟨xb, xf, rfl, _, hcx⟩ := HI.at (HI.keep hx hlow (Nat.le_refl _)) (by omega)
                obtain ⟨yb, yf, rfl, _, hcy⟩ := HI.at (HI.keep hy hlow (Nat.le_refl _)) (by omega)
                obtain ⟨b2, rfl⟩ : ∃ b2, b' = b2 + 1 := ⟨b' - 1, by omega⟩
                obtain ⟨d2, rfl⟩ : ∃ d2, d' = d2 + 1 := ⟨d' - 1, by omega⟩
                rw [Nat.add_sub_cancel, Nat.add_sub_cancel] at HRr
                have c1' : wr.cell? ⟨w.heap.size, 1, none⟩ = some (.int .i64 ((b2 : Int) + 1)) := c1
                have c3' : wr.cell? ⟨w.heap.size, 3, none⟩ = some (.int .i64 ((d2 : Int) + 1)) := c3
                have e1' : decide ((A1 : Int) < (b2 : Int) + 1) = true := decide_eq_true (by omega)
                have e2' : decide ((C1 : Int) < (d2 : Int) + 1) = true := decide_eq_true (by omega)
                clear c1 c3 e1 e2
                have x0 := hcx b2 (by omega)
                have y0 := hcy d2 (by omega)
                obtain ⟨zx, hzx⟩ : ∃ z, x[b2] = z := ⟨_, rfl⟩
                obtain ⟨zy, hzy⟩ : ∃ z, y[d2] = z := ⟨_, rfl⟩
                rw [hzx] at x0
                rw [hzy] at y0
                have n1 : ((b2 + 1 : Nat) : Int) - 1 = (b2 : Int) := by omega
                have n2 : ((d2 + 1 : Nat) : Int) - 1 = (d2 : Int) := by omega
                have n3 : (b2 : Int) + 1 - 1 = (b2 : Int) := by omega
                have n4 : (d2 : Int) + 1 - 1 = (d2 : Int) := by omega
                have n5 : IntKind.i64.wrap ((b2 : Int) + 1 - 1) = (b2 : Int) := by rw [IntKind.wrap_i64]; omega
                have n6 : IntKind.i64.wrap ((d2 : Int) + 1 - 1) = (d2 : Int) := by rw [IntKind.wrap_i64]; omega
                have n7 : IntKind.i64.wrap (b2 : Int) = (b2 : Int) := by rw [IntKind.wrap_i64]; omega
                have n8 : IntKind.i64.wrap (d2 : Int) = (d2 : Int) := by rw [IntKind.wrap_i64]; omega
                have a3 : 0 ≤ (b2 : Int) := by omega
                have c6 : 0 ≤ (d2 : Int) := by omega
                have a2 : (b2 : Int) < (x.length : Int) := by omega
                have c5 : (d2 : Int) < (y.length : Int) := by omega
                have e3 : (zx == zy) = r := by
                  rw [← HRr.out, List.getElem?_eq_getElem (by omega), List.getElem?_eq_getElem (by omega), hzx, hzy]
                  by_cases q : zx = zy <;> simp [h1, h2, q]
                clear hcx hcy hzx hzy HRr
                go_big_quiet (fail)
                go_wp2
                go_meet
                case rel => exact ⟨rfl, _, rfl⟩
              · have e2 : decide ((C1 : Int) < (d' : Int)) = false := decide_eq_false (by omega)
                obtain rfl : r = false := by rw [← HRr.out]; simp [h2]
                go_big_quiet (fail)
                go_wp2
                go_meet
                case rel => exact ⟨rfl, _, rfl⟩
            · have e1 : decide ((A1 : Int) < (b' : Int)) = false := decide_eq_false (by omega)
              obtain rfl : r = false := by rw [← HRr.out]; simp [h1]
              go_big_quiet (fail)
              go_wp2
              go_meet
              case rel => exact ⟨rfl, _, rfl⟩
          case rest =>
            obtain ⟨rfl, q, rfl⟩ := hcut
            have hTq := hT.drewN q
            have hGq := grown_drewN hG q
            have hRq : (wr.drewN q).heap[w.heap.size + 1]? = some (.cells #[.int .i64 0, .int .i64 0, .int .i64 0, .int .i64 0] 75 (0, 0)) := hR
            have cw := c1
            clear c0 c1 c2 c3 hT hG hR hlow
            generalize wr.drewN q = u1 at hTq hGq hRq ⊢
            obtain ⟨c0, c1, c2, c3⟩ := hTq.box.cells
            have f0 := hTq.box.frozen
            cases r with
            | true =>
              have hh := of_decide_eq_true HRr.out
              obtain ⟨h1, h2, h3⟩ := hh
              obtain ⟨b2, rfl⟩ : ∃ b2, b' = b2 + 1 := ⟨b' - 1, by omega⟩
              obtain ⟨d2, rfl⟩ : ∃ d2, d' = d2 + 1 := ⟨d' - 1, by omega⟩
              have HV2 : Hid (b2 - tb x y A1 b2 C1 d2 = b - m ∧ d2 - tb x y A1 b2 C1 d2 = d - m ∧ wrk (K2.set b2 (d2 : Int)) (bp b2 d2 (tb x y A1 b2 C1 d2)) = wrk K' (bp b d m)) := (by
                have := HV.out
                rw [tb, if_pos ⟨h1, h2, h3⟩, Nat.add_sub_cancel, Nat.add_sub_cancel, bp, wrk_cons, Nat.add_sub_cancel, Nat.add_sub_cancel] at this
                obtain ⟨q1, q2, q3⟩ := this
                exact ⟨by omega, by omega, by simpa using q3⟩)
              clear HV h3 HRr
              obtain ⟨z0, y0, g0⟩ := hTq.at (i := b2) (by omega)
              have hT1 := hTq.put b2 (d2 : Int)
              have hT2 := hT1.set1 b2 (b2 : Int) rfl
              have hT3 := hT2.set3 d2 (d2 : Int) rfl
              have k1 : u1.cell? ⟨w.heap.size, 1, none⟩ = some (.int .i64 ((b2 : Int) + 1)) := c1
              have k3 : u1.cell? ⟨w.heap.size, 3, none⟩ = some (.int .i64 ((d2 : Int) + 1)) := c3
              clear c1 c3
              obtain ⟨d0, d1', d2', d3'⟩ := hT1.box.cells
              have l1 : (u1.setCell ⟨W0.heap.size, b2, none⟩ (.int .i64 (d2 : Int))).cell? ⟨w.heap.size, 1, none⟩ = some (.int .i64 ((b2 : Int) + 1)) := d1'
              have l3 : (u1.setCell ⟨W0.heap.size, b2, none⟩ (.int .i64 (d2 : Int))).cell? ⟨w.heap.size, 3, none⟩ = some (.int .i64 ((d2 : Int) + 1)) := d3'
              clear d1' d3'
              have f1 := hT1.box.frozen
              obtain ⟨e0, e1', e2', e3'⟩ := hT2.box.cells
              have m3 : ((u1.setCell ⟨W0.heap.size, b2, none⟩ (.int .i64 (d2 : Int))).setCell ⟨w.heap.size, 1, none⟩ (.int .i64 (b2 : Int))).cell? ⟨w.heap.size, 3, none⟩ = some (.int .i64 ((d2 : Int) + 1)) := e3'
              clear e3'
              have f2 := hT2.box.frozen
              have hG3 := grown_new (grown_new (hGq.trans (grown_set u1 W0.heap.size b2 (.int .i64 (d2 : Int)))) (Nat.le_refl _) 1 (.int .i64 (b2 : Int))) (Nat.le_refl _) 3 (.int .i64 (d2 : Int))
              have n3 : (b2 : Int) + 1 - 1 = (b2 : Int) := by omega
              have n4 : (d2 : Int) + 1 - 1 = (d2 : Int) := by omega
              have a3 : 0 ≤ (b2 : Int) := by omega
              have a2 : (b2 : Int) < (x.length : Int) := by omega
              go_wp2
              refine ⟨⟨b2, d2, _, by omega, by omega, by omega, by omega, hT3, (heap_setCell_other _ _ _ _ (by simp)).trans ((heap_setCell_other _ _ _ _ (by simp)).trans ((heap_setCell_other _ _ _ _ (by simp; omega)).trans hRq)), hG3, HV2⟩, ?_⟩
              rw [cw, hT3.box.cells.2.1]
              simp [intOf]
            | false =>
              have hh := of_decide_eq_false HRr.out
              have hz : tb x y A1 b' C1 d' = 0 := by rw [tb, if_neg hh]
              obtain ⟨q1, q2, q3⟩ := HV.out
              rw [hz] at q1 q2 q3
              have q3' : K2 = wrk K' (bp b d m) := q3
              clear hh hz q3 HV HRr cw
              have hr0 : u1.cell? ⟨w.heap.size + 1, 0, none⟩ = some (.int .i64 0) := by rw [Lib.cell_of_heap hRq]; rfl
              have hr1 : u1.cell? ⟨w.heap.size + 1, 1, none⟩ = some (.int .i64 0) := by rw [Lib.cell_of_heap hRq]; rfl
              have hr2 : u1.cell? ⟨w.heap.size + 1, 2, none⟩ = some (.int .i64 0) := by rw [Lib.cell_of_heap hRq]; rfl
              have hr3 : u1.cell? ⟨w.heap.size + 1, 3, none⟩ = some (.int .i64 0) := by rw [Lib.cell_of_heap hRq]; rfl
              have fr : ∀ j, u1.frozen? ⟨w.heap.size + 1, j, none⟩ = false := fun j => by unfold World.frozen?; rw [hRq]; rfl
              go_wp2
              have s1 := heap_setCell_same u1 (w.heap.size + 1) 0 _ _ (.int .i64 (A1 : Int)) hRq
              have s2 := heap_setCell_same _ (w.heap.size + 1) 1 _ _ (.int .i64 (b' : Int)) s1
              have s3 := heap_setCell_same _ (w.heap.size + 1) 2 _ _ (.int .i64 (C1 : Int)) s2
              have s4 := heap_setCell_same _ (w.heap.size + 1) 3 _ _ (.int .i64 (d' : Int)) s3
              have hL4 := ls_other (ls_other (ls_other (ls_other hTq.ls (g := w.heap.size + 1) (by omega) (by omega) 0 (.int .i64 (A1 : Int))) (g := w.heap.size + 1) (by omega) (by omega) 1 (.int .i64 (b' : Int))) (g := w.heap.size + 1) (by omega) (by omega) 2 (.int .i64 (C1 : Int))) (g := w.heap.size + 1) (by omega) (by omega) 3 (.int .i64 (d' : Int))
              have hG4 := grown_new (grown_new (grown_new (grown_new hGq (B := w.heap.size + 1) (by omega) 0 (.int .i64 (A1 : Int))) (B := w.heap.size + 1) (by omega) 1 (.int .i64 (b' : Int))) (B := w.heap.size + 1) (by omega) 2 (.int .i64 (C1 : Int))) (B := w.heap.size + 1) (by omega) 3 (.int .i64 (d' : Int))
              refine bodyPost_ret (v := .agg #[.int .i64 (A1 : Int), .int .i64 (b' : Int), .int .i64 (C1 : Int), .int .i64 (d' : Int)]) (results_cell_row rfl _ _ (w.heap.size + 1) 75 #[.int .i64 (A1 : Int), .int .i64 (b' : Int), .int .i64 (C1 : Int), .int .i64 (d' : Int)] (0, 0) _ rfl s4 Tryz.underlying75 rfl (by kernel_rfl)) rfl ⟨k, m, HFin.out.1, HFin.out.2.1, ?_, ?_, hG4⟩
              · rw [← HFin.out.2.2.1, ← HFin.out.2.2.2.1, show b - m = b' by omega, show d - m = d' by omega]
              · rw [← HFin.out.2.2.2.2, ← q3']
                exact hL4
end Go.Proofs.YtjhanfiohfakoaaGreatDoor

/- What the least edit script keeps, by the reference: Keeps, Length and Diff, walked. -/
set_option maxRecDepth 20000
namespace Go.Proofs.YtjhanfiohfakoaaGreatDoor
open Go.RowKit

set_option maxRecDepth 10000 in
set_option maxHeartbeats 4000000 in
theorem Keeps_own (x y : List Int) (vx vy : Value) (w : World) (hx : HI w vx x) (hy : HI w vy y) (hxl : x.length ≤ 4096) (hyl : y.length ≤ 4096) (K : List Int) (hK : Hid (kp 0 x y = K)) :
    Calls Tryz.prog 41 #[vx, vy] w fun e w' => ∃ v' B, e = .returned v' ∧ w.heap.size ≤ B ∧ w'.ownsRow B 3 1 v' K.length (icells K) ∧ Below w.heap.size w w' := by
  obtain ⟨xo, xc, rfl⟩ := Holds.form hx
  obtain ⟨yo, yc, rfl⟩ := Holds.form hy
  have HKl : Hid (K.length = x.length) := (by show _ = _; rw [← hK.out, kp_length])
  go_enter Tryz.func41, Tryz.ntmps41
  go_wp2_with fail
  refine (table_f x y _ _ w hx hy hxl hyl).mono ?_
  rintro e w1 ⟨rfl, hR, hB1⟩
  go_wp2
  go_loopw [6, 7, 8] (fun kv jv iv wr => ∃ (i j : Nat) (Z : List Int) (zo : Option Addr) (zc : Nat), i ≤ x.length ∧ j ≤ y.length ∧ iv = .int .i64 i ∧ jv = .int .i64 j ∧ kv = .slice zo i zc ∧ Z.length = i ∧ wr.ownsRow w1.heap.size 3 1 (.slice zo i zc) i (icells Z) ∧ Below w1.heap.size w1 wr ∧ Hid (Z ++ kp j (x.drop i) (y.drop j) = K)) (fun _ jv iv _ => (x.length - (intOf iv).toNat) + (y.length - (intOf jv).toNat))
  case atStart => exact ⟨0, 0, [], none, 0, Nat.zero_le _, Nat.zero_le _, rfl, rfl, rfl, rfl, World.ownsRow_nil _ _ _ _, Below.refl _ _, hK⟩
  case round =>
    obtain ⟨i, j, Z, zo, zc, hi, hj, rfl, rfl, rfl, hZl, hO, hB, HZ⟩ := hrel
    have hs := hB.size
    have hB0 : Below w.heap.size w wr := hB1.trans (hB.mono hB1.size)
    by_cases hil : i < x.length
    · obtain ⟨bx, ox, rfl, _, hcx⟩ := HI.at (HI.keep hx hB0 (Nat.le_refl _)) (by omega)
      have d1 := hcx i hil
      obtain ⟨xi, hxi⟩ : ∃ z, x[i] = z := ⟨_, rfl⟩
      rw [hxi] at d1
      clear hcx
      have i1 : 0 ≤ (i : Int) := by omega
      have i2 : (i : Int) < (x.length : Int) := by omega
      by_cases hjl : j < y.length
      · obtain ⟨by', oy, rfl, _, hcy⟩ := HI.at (HI.keep hy hB0 (Nat.le_refl _)) (by omega)
        have d2 := hcy j hjl
        obtain ⟨yj, hyj⟩ : ∃ z, y[j] = z := ⟨_, rfl⟩
        rw [hyj] at d2
        clear hcy
        have hRr := hR.keep hB
        have hkp := kp_step j x y i j hil hjl
        rw [hxi, hyj] at hkp
        have t1 := hRr.top i hi
        have t2 := hRr.top (i + 1) (by omega)
        have r1 := hRr.at' (i + 1) j (by omega) (by omega)
        have r2 := hRr.at' i (j + 1) (by omega) (by omega)
        unfold rowV at t1 t2
        have b1 := ln_le x y (i + 1) j
        have b2 := ln_le x y i (j + 1)
        have HKP : Hid (kp j (x.drop i) (y.drop j) = if xi = yj then (j : Int) :: kp ((j : Int) + 1) (x.drop (i + 1)) (y.drop (j + 1)) else if ln x y i (j + 1) ≤ ln x y (i + 1) j then -1 :: kp j (x.drop (i + 1)) (y.drop j) else kp ((j : Int) + 1) (x.drop i) (y.drop (j + 1))) := hkp
        clear hkp hxi hyj hRr
        have i3 : (i : Int) + 1 < (x.length : Int) + 1 := by omega
        have i4 : (i : Int) < (x.length : Int) + 1 := by omega
        have j1 : 0 ≤ (j : Int) := by omega
        have j2 : (j : Int) < (y.length : Int) := by omega
        have j3 : (j : Int) + 1 < (y.length : Int) + 1 := by omega
        have j4 : (j : Int) < (y.length : Int) + 1 := by omega
        have hje : ((j : Int) == (y.length : Int)) = false := by simp; omega
        generalize rowB w.heap.size x.length i = gi at *
        generalize rowB w.heap.size x.length (i + 1) = gj at *
        generalize ln x y (i + 1) j = a1 at *
        generalize ln x y i (j + 1) = a2 at *
        by_cases hxy : xi = yj
        · have HK2 : Hid ((Z ++ [(j : Int)]) ++ kp ((j + 1 : Nat) : Int) (x.drop (i + 1)) (y.drop (j + 1)) = K) := (by
            show _ = _
            rw [← HZ.out, HKP.out, if_pos hxy]
            simp)
          clear HKP
          subst hxy
          have e1 : (xi == xi) = true := by simp
          have e2 : (xi != xi) = false := by simp
          go_wp2_with fail
          go_big_quiet (fail)
          revert nq
          intro n1
          go_wp2_with fail
          go_quiet (fail)
          have hOd : ((wr.drewN n1).drewN nq).ownsRow w1.heap.size 3 1 (.slice zo i zc) i (icells Z) := hO
          have hBd : Below w1.heap.size w1 ((wr.drewN n1).drewN nq) := Below.dN (Below.dN hB n1) nq
          generalize (wr.drewN n1).drewN nq = wd at hOd hBd ⊢
          have hsd := hBd.size
          go_wp2_with (at_builtin; refine wpList_append_h _ (by kernel_rfl) (.tmp 68) (.tmp 70) 35 3 (.int .i64 0) 1 8 rfl Tryz.underlying35 infoInt rfl (by decide) (by decide) w1.heap.size (.slice zo i zc) i (icells Z) (by kernel_rfl) (hOd.alloc _) (.slice (some ⟨wd.heap.size, 0, none⟩) 1 1) 1 (icells [(j : Int)]) (by kernel_rfl) (new_holds wd _ _ 1 1 (by decide)) rfl (icells_one _) (by omega) (by simp; omega) ?_)
          intro v3 w3 hown3 hgrow3
          have hB3 : Below w1.heap.size w1 w3 := (hBd.alloc (by omega) _).grown hgrow3 (by simp; omega) (fun _ hj => owns_ge hO hj)
          rw [← icells_append] at hown3
          obtain ⟨zo3, zc3, rfl⟩ := (holds_of hown3).form
          clear hgrow3
          go_wp2
          go_roundw
          case rel => exact ⟨i + 1, j + 1, Z ++ [(j : Int)], zo3, zc3, by omega, by omega, by go_num, by go_num, rfl, by simp [hZl], hown3, hB3, HK2⟩
          case measure => simp [intOf]; omega
        · have e1 : (xi == yj) = false := by simp [hxy]
          have e2 : (xi != yj) = true := by simp [hxy]
          by_cases hle : a2 ≤ a1
          · have HK2 : Hid ((Z ++ [-1]) ++ kp (j : Int) (x.drop (i + 1)) (y.drop j) = K) := (by
              show _ = _
              rw [← HZ.out, HKP.out, if_neg hxy, if_pos hle]
              simp)
            clear HKP
            go_wp2_with fail
            go_big_quiet (fail)
            have hOd : (wr.drewN nq).ownsRow w1.heap.size 3 1 (.slice zo i zc) i (icells Z) := hO
            have hBd : Below w1.heap.size w1 (wr.drewN nq) := Below.dN hB nq
            generalize wr.drewN nq = wd at hOd hBd ⊢
            have hsd := hBd.size
            go_wp2_with (at_builtin; refine wpList_append_h _ (by kernel_rfl) (.tmp 53) (.tmp 54) 35 3 (.int .i64 0) 1 8 rfl Tryz.underlying35 infoInt rfl (by decide) (by decide) w1.heap.size (.slice zo i zc) i (icells Z) (by kernel_rfl) (hOd.alloc _) (.slice (some ⟨wd.heap.size, 0, none⟩) 1 1) 1 (icells [-1]) (by kernel_rfl) (new_holds wd _ _ 1 1 (by decide)) rfl (icells_one _) (by omega) (by simp; omega) ?_)
            intro v3 w3 hown3 hgrow3
            have hB3 : Below w1.heap.size w1 w3 := (hBd.alloc (by omega) _).grown hgrow3 (by simp; omega) (fun _ hj => owns_ge hO hj)
            rw [← icells_append] at hown3
            obtain ⟨zo3, zc3, rfl⟩ := (holds_of hown3).form
            clear hgrow3
            go_wp2
            go_roundw
            case rel => exact ⟨i + 1, j, Z ++ [-1], zo3, zc3, by omega, by omega, by go_num, rfl, rfl, by simp [hZl], hown3, hB3, HK2⟩
            case measure => simp [intOf]; omega
          · have HK2 : Hid (Z ++ kp ((j + 1 : Nat) : Int) (x.drop i) (y.drop (j + 1)) = K) := (by
              show _ = _
              rw [← HZ.out, HKP.out, if_neg hxy, if_neg hle]
              simp)
            clear HKP
            have e3 : decide ((a2 : Int) ≤ (a1 : Int)) = false := decide_eq_false (by omega)
            have e4 : decide (a2 ≤ a1) = false := decide_eq_false hle
            go_wp2_with fail
            go_big_quiet (fail)
            go_wp2_with fail
            go_quiet (fail)
            go_wp2
            exact ⟨⟨i, j + 1, Z, zo, zc, hi, by omega, rfl, by go_num, rfl, hZl, hO, Below.dN hB _, HK2⟩, by simp [intOf]; omega⟩
      · have HK2 : Hid ((Z ++ [-1]) ++ kp (j : Int) (x.drop (i + 1)) (y.drop j) = K) := (by
          show _ = _
          rw [← HZ.out, show y.drop j = [] by rw [List.drop_eq_nil_iff]; omega, List.drop_eq_getElem_cons hil, kp]
          simp)
        have hje : ((j : Int) == (y.length : Int)) = true := by simp; omega
        go_wp2_with fail
        go_big_quiet (fail)
        have hOd : (wr.drewN nq).ownsRow w1.heap.size 3 1 (.slice zo i zc) i (icells Z) := hO
        have hBd : Below w1.heap.size w1 (wr.drewN nq) := Below.dN hB nq
        generalize wr.drewN nq = wd at hOd hBd ⊢
        have hsd := hBd.size
        go_wp2_with (at_builtin; refine wpList_append_h _ (by kernel_rfl) (.tmp 53) (.tmp 54) 35 3 (.int .i64 0) 1 8 rfl Tryz.underlying35 infoInt rfl (by decide) (by decide) w1.heap.size (.slice zo i zc) i (icells Z) (by kernel_rfl) (hOd.alloc _) (.slice (some ⟨wd.heap.size, 0, none⟩) 1 1) 1 (icells [-1]) (by kernel_rfl) (new_holds wd _ _ 1 1 (by decide)) rfl (icells_one _) (by omega) (by simp; omega) ?_)
        intro v3 w3 hown3 hgrow3
        have hB3 : Below w1.heap.size w1 w3 := (hBd.alloc (by omega) _).grown hgrow3 (by simp; omega) (fun _ hj => owns_ge hO hj)
        rw [← icells_append] at hown3
        obtain ⟨zo3, zc3, rfl⟩ := (holds_of hown3).form
        clear hgrow3
        go_wp2
        go_roundw
        case rel => exact ⟨i + 1, j, Z ++ [-1], zo3, zc3, by omega, by omega, by go_num, rfl, rfl, by simp [hZl], hown3, hB3, HK2⟩
        case measure => simp [intOf]; omega
    · obtain rfl : i = x.length := by omega
      have hZK : Z = K := by rw [← HZ.out, show x.drop x.length = [] by simp, kp_nil, List.append_nil]
      subst hZK
      go_wp2
      go_ret
      exact ⟨_, _, rfl, hB1.size, by rw [hZl]; exact hO, hB0⟩
theorem Keeps_f (x y : List Int) (vx vy : Value) (w : World) (hx : HI w vx x) (hy : HI w vy y) (hxl : x.length ≤ 4096) (hyl : y.length ≤ 4096) (K : List Int) (hK : Hid (kp 0 x y = K)) :
    Calls Tryz.prog 41 #[vx, vy] w fun e w' => ∃ v', e = .returned v' ∧ HI w' v' K ∧ Below w.heap.size w w' := by
  refine (Keeps_own x y vx vy w hx hy hxl hyl K hK).mono ?_
  rintro e w' ⟨v', B, rfl, _, ho, hb⟩
  exact ⟨v', rfl, holds_of ho, hb⟩
end Go.Proofs.YtjhanfiohfakoaaGreatDoor

/- The reference's Least, walked. -/
set_option maxRecDepth 20000
namespace Go.Proofs.YtjhanfiohfakoaaGreatDoor
open Go.RowKit
attribute [local simp] low_drew

theorem Pbox.low {u u' : World} {B a b c d : Nat} (h : Pbox u B a b c d) (hg : Below u.heap.size u u') : Pbox u' B a b c d := (hg.block B (Array.getElem?_eq_some_iff.1 h).1).trans h
theorem Pbox.keep {u u' : World} {B a b c d : Nat} (h : Pbox u B a b c d) {r : Option Nat} (hg : u.grownBy u' r) (hr : some B ≠ r) : Pbox u' B a b c d := (hg.block B (Array.getElem?_eq_some_iff.1 h).1 hr).trans h
theorem Pbox.new (w : World) (a b c d : Nat) : Pbox (w.alloc (.cells #[.int .i64 (a : Int), .int .i64 (b : Int), .int .i64 (c : Int), .int .i64 (d : Int)] 75)) w.heap.size a b c d := _root_.Go.heap_alloc_new w _
theorem Keeps_low (x y : List Int) (vx vy : Value) (W u : World) (hx : HI u vx x) (hy : HI u vy y) (hxl : x.length ≤ 4096) (hyl : y.length ≤ 4096) (K : List Int) (hK : Hid (kp 0 x y = K)) (hL : Low W u) :
    Calls Tryz.prog 41 #[vx, vy] u fun e w' => ∃ v' B, e = .returned v' ∧ W.heap.size ≤ B ∧ w'.ownsRow B 3 1 v' K.length (icells K) ∧ Low W w' := by
  refine (Keeps_own x y vx vy u hx hy hxl hyl K hK).mono ?_
  rintro e w' ⟨v', B, rfl, h1, h2, h3⟩
  exact ⟨v', B, rfl, Nat.le_trans (Below.size hL) h1, h2, Below.trans hL (h3.mono (Below.size hL))⟩

set_option maxRecDepth 10000 in
set_option maxHeartbeats 4000000 in
theorem Least_f (x y : List Int) (W0 w : World) (vx vy : Value) (hx : HI W0 vx x) (hy : HI W0 vy y) (hxl : x.length ≤ 4096) (hyl : y.length ≤ 4096) (K : List Int) (hS : Ls W0 W0.heap.size x.length K w) (a b c d : Nat) (hab : a ≤ b) (hb : b ≤ x.length) (hcd : c ≤ d) (hd : d ≤ y.length) (KF : List Int) (hKF : Hid (wrk K (lp a c (kp 0 (sub x a b) (sub y c d))) = KF)) :
    Calls Tryz.prog 39 #[.slice (some ⟨W0.heap.size, 0, none⟩) x.length x.length, vx, vy, .agg #[.int .i64 (a : Int), .int .i64 (b : Int), .int .i64 (c : Int), .int .i64 (d : Int)]] w fun e w' => e = .returned (.tuple #[]) ∧ Ls W0 W0.heap.size x.length KF w' ∧ w.grownBy w' (some W0.heap.size) := by
  obtain ⟨xo, xc, rfl⟩ := Holds.form hx
  obtain ⟨yo, yc, rfl⟩ := Holds.form hy
  have hg := hS.lt.2
  have r1 := run_slB xo x.length xc a b hab hb (hold_cap hx)
  have r2 := run_slB yo y.length yc c d hcd hd (hold_cap hy)
  obtain ⟨X, hX⟩ : ∃ X, sub x a b = X := ⟨_, rfl⟩
  obtain ⟨Y, hY⟩ : ∃ Y, sub y c d = Y := ⟨_, rfl⟩
  obtain ⟨nx, hnx⟩ : ∃ nx, b - a = nx := ⟨_, rfl⟩
  obtain ⟨ny, hny⟩ : ∃ ny, d - c = ny := ⟨_, rfl⟩
  have hXl : X.length = nx := by rw [← hX, sub_length x a b hb, hnx]
  have hYl : Y.length = ny := by rw [← hY, sub_length y c d hd, hny]
  rw [hnx] at r1
  rw [hny] at r2
  obtain ⟨Z, hZ⟩ : ∃ Z, kp 0 X Y = Z := ⟨_, rfl⟩
  rw [hX, hY, hZ] at hKF
  have HZ : Hid (kp 0 X Y = Z) := hZ
  have HZl : Hid (Z.length = nx) := (by show _ = _; rw [← hZ, kp_length, hXl])
  have HV : Hid (Vk 0 ny Z) := (by
    have := kp_vk 0 X Y (Int.le_refl _)
    rw [hZ, Int.zero_add, hYl] at this
    exact this)
  have hxs : ∀ u : World, Low (w.alloc (.cells #[.int .i64 (a : Int), .int .i64 (b : Int), .int .i64 (c : Int), .int .i64 (d : Int)] 75)) u → HI u (.slice (slF xo xc a) nx (xc - a)) X ∧ HI u (.slice (slF yo yc c) ny (yc - c)) Y := fun u hu => by
    have hlow : Below W0.heap.size W0 u := (hS.low.alloc hS.low.size _).trans (Below.mono hu (by have := hS.low.size; simp; omega))
    have h1 := hold_sub (HI.keep hx hlow (Nat.le_refl _)) hab hb
    have h2 := hold_sub (HI.keep hy hlow (Nat.le_refl _)) hcd hd
    unfold HI
    rw [hXl, hYl]
    rw [hX, hnx] at h1
    rw [hY, hny] at h2
    exact ⟨h1, h2⟩
  have HE : Hid (b = a + nx ∧ d = c + ny ∧ X.length = nx ∧ Y.length = ny) := ⟨by omega, by omega, hXl, hYl⟩
  generalize slF xo xc a = xo' at r1 hxs
  generalize slF yo yc c = yo' at r2 hxs
  generalize xc - a = xc' at r1 hxs
  generalize yc - c = yc' at r2 hxs
  have hnl : nx ≤ 4096 := by omega
  clear hX hY hnx hny hXl hYl hZ
  have hQ0 := Pbox.new w a b c d
  have hB0 := (Below.refl w.heap.size w).alloc (Nat.le_refl _) (.cells #[.int .i64 (a : Int), .int .i64 (b : Int), .int .i64 (c : Int), .int .i64 (d : Int)] 75)
  have hcs : ∀ u : World, Low (w.alloc (.cells #[.int .i64 (a : Int), .int .i64 (b : Int), .int .i64 (c : Int), .int .i64 (d : Int)] 75)) u → u.cell? ⟨w.heap.size, 0, none⟩ = some (.int .i64 (a : Int)) ∧ u.cell? ⟨w.heap.size, 1, none⟩ = some (.int .i64 (b : Int)) ∧ u.cell? ⟨w.heap.size, 2, none⟩ = some (.int .i64 (c : Int)) ∧ u.cell? ⟨w.heap.size, 3, none⟩ = some (.int .i64 (d : Int)) := fun u hu => (hQ0.low hu).cells
  obtain ⟨W1, hW1⟩ : ∃ W1, w.alloc (.cells #[.int .i64 (a : Int), .int .i64 (b : Int), .int .i64 (c : Int), .int .i64 (d : Int)] 75) = W1 := ⟨_, rfl⟩
  rw [hW1] at hQ0 hB0 hcs hxs
  have hsz : W1.heap.size = w.heap.size + 1 := by rw [← hW1]; simp
  obtain ⟨c0, c1, c2, c3⟩ := hQ0.cells
  go_enter Tryz.func39, Tryz.ntmps39
  go_wp2_with fail
  have hLw : Low W1 W1 := Below.refl _ _
  clear hW1
  go_region_held3 (fun u => u.cell? ⟨w.heap.size, 0, none⟩ = some (.int .i64 (a : Int)) ∧ u.cell? ⟨w.heap.size, 1, none⟩ = some (.int .i64 (b : Int)) ∧ u.cell? ⟨w.heap.size, 2, none⟩ = some (.int .i64 (c : Int)) ∧ u.cell? ⟨w.heap.size, 3, none⟩ = some (.int .i64 (d : Int)) ∧ Low W1 u) (go_keep)
    (first | (go_at_call 41; refine (Keeps_low X Y _ _ W1 _ (hxs _ (by first | assumption | (simp [*]; done))).1 (hxs _ (by first | assumption | (simp [*]; done))).2 (by have := HE.out; omega) (by have := HE.out; omega) Z HZ (by first | assumption | (simp [*]; done))).mono ?_; rintro e wd ⟨v', B, rfl, hBB, hO, hlw⟩; obtain ⟨g0, g1, g2, g3⟩ := hcs wd hlw))
  obtain ⟨zo, zc, rfl⟩ := (holds_of hO).form
  rw [HZl.out] at hO ⊢
  have hBw : Below w.heap.size w wd := hB0.trans (Below.mono hlw (by omega))
  have hQ2 := hQ0.low hlw
  have hS2 := hS.keep hBw
  have hG2 := low_grown hBw (some W0.heap.size)
  clear c0 c1 c2 c3 g0 g1 g2 g3 hcs hxs r1 r2 hlw hLw hQ0 hB0 hS HZ hBw
  go_wp2
  go_loopw [9] (fun iv wr => ∃ (i : Nat) (K2 : List Int), i ≤ nx ∧ iv = .int .i64 i ∧ Ls W0 W0.heap.size x.length K2 wr ∧ w.grownBy wr (some W0.heap.size) ∧ Pbox wr w.heap.size a b c d ∧ wr.ownsRow B 3 1 (.slice zo nx zc) nx (icells Z) ∧ Hid (wrk K2 (lp ((a : Int) + i) c (Z.drop i)) = KF)) (fun iv _ => nx - (intOf iv).toNat)
  case atStart => exact ⟨0, K, Nat.zero_le _, rfl, hS2, hG2, hQ2, hO, by simpa using hKF⟩
  case round =>
    clear hS2 hG2 hQ2 hO hKF
    obtain ⟨i, K2, hi, rfl, hS, hG, hQ, hO, HW⟩ := hrel
    by_cases hlt : i < nx
    · have hiZ : i < Z.length := by have := HZl.out; omega
      obtain ⟨zb, zf, zcc, hze, _, hcz⟩ := Holds.at (holds_of hO) (by rw [icells_length]; omega)
      cases hze
      have z0 := hcz i (by rw [icells_length]; omega)
      obtain ⟨j, hj⟩ : ∃ j, Z[i] = j := ⟨_, rfl⟩
      have z1 : wr.cell? ⟨zb, zf + i, none⟩ = some (.int .i64 j) := by rw [z0]; simp [icells, hj]
      have hjv := (HV.out.each (Int.le_refl _)) j (by rw [← hj]; exact List.getElem_mem _)
      have hjl := HV.out.lt j (by rw [← hj]; exact List.getElem_mem _)
      have HW2 : Hid (wrk K2 ((if j = -1 then [] else [⟨(a : Int) + i, c + j⟩]) ++ lp ((a : Int) + i + 1) c (Z.drop (i + 1))) = KF) := (by
        show _ = _
        have := HW.out
        rw [List.drop_eq_getElem_cons hiZ, lp, hj] at this
        exact this)
      clear z0 hcz hj HW
      have i1 : 0 ≤ (i : Int) := by omega
      have i2 : (i : Int) < (nx : Int) := by omega
      by_cases hj1 : j = -1
      · have e1 : ¬ 0 ≤ j := by omega
        have e2 : decide (0 ≤ j) = false := decide_eq_false e1
        have HW3 : Hid (wrk K2 (lp ((a : Int) + ((i + 1 : Nat) : Int)) c (Z.drop (i + 1))) = KF) := (by
          show _ = _
          rw [← HW2.out, if_pos hj1, List.nil_append, show (a : Int) + ((i + 1 : Nat) : Int) = (a : Int) + i + 1 by omega])
        clear HW2 hj1 hjv hjl
        go_wp2
        go_roundw
        case rel => exact ⟨i + 1, K2, by omega, by go_num, hS, hG, hQ, hO, HW3⟩
        case measure => simp [intOf]; omega
      · obtain ⟨q, rfl⟩ : ∃ q : Nat, j = q := ⟨j.toNat, by omega⟩
        have hqn : q < ny := by omega
        obtain ⟨u, hu⟩ : ∃ u, a + i = u := ⟨_, rfl⟩
        obtain ⟨v, hv⟩ : ∃ v, c + q = v := ⟨_, rfl⟩
        have hE := HE.out
        have n1 : (a : Int) + (i : Int) = (u : Int) := by omega
        have n2 : (c : Int) + (q : Int) = (v : Int) := by omega
        have n3 : IntKind.i64.wrap (u : Int) = (u : Int) := by rw [IntKind.wrap_i64]; omega
        have n4 : IntKind.i64.wrap (v : Int) = (v : Int) := by rw [IntKind.wrap_i64]; omega
        have i3 : 0 ≤ (u : Int) := by omega
        have i4 : (u : Int) < (x.length : Int) := by omega
        have e1 : 0 ≤ (q : Int) := by omega
        have hl := hS.len
        have d0 := hS.at (List.getElem?_eq_getElem (i := u) (by omega))
        have f0 := hS.own.frozenAt u
        have hS1 := hS.set u (v : Int)
        have hG1 := hG.trans (grown_set wr W0.heap.size u (.int .i64 (v : Int)))
        have hQ1 := hQ.keep (grown_set wr W0.heap.size u (.int .i64 (v : Int))) (by simp; omega)
        have hO1 := holds_grown hO (grown_set wr W0.heap.size u (.int .i64 (v : Int))) (by omega)
        have HW3 : Hid (wrk (K2.set u (v : Int)) (lp ((a : Int) + ((i + 1 : Nat) : Int)) c (Z.drop (i + 1))) = KF) := (by
          show _ = _
          rw [← HW2.out, if_neg hj1, wrk_append, show (a : Int) + ((i + 1 : Nat) : Int) = (a : Int) + i + 1 by omega]
          simp only [wrk, List.foldl_cons, List.foldl_nil, n1, n2, Int.toNat_natCast])
        generalize K2[u] = z0 at d0
        obtain ⟨c0, c1, c2, c3⟩ := hQ.cells
        clear HW2 hj1 hjv hjl hl hu hv hE
        go_wp2
        go_region
        go_wp2
        go_roundw
        case rel => exact ⟨i + 1, _, by omega, by go_num, hS1.drewN 1, grown_drewN hG1 1, hQ1, hO1, HW3⟩
        case measure => simp [intOf]; omega
    · obtain rfl : i = nx := by omega
      have e : K2 = KF := by
        have := HW.out
        rw [List.drop_of_length_le (by have := HZl.out; omega)] at this
        exact this
      subst e
      go_wp2
      go_end0
      exact ⟨rfl, hS, hG⟩
end Go.Proofs.YtjhanfiohfakoaaGreatDoor
