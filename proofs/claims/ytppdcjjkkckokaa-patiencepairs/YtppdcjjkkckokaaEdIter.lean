/-
  The iterator over a script's pieces: its contract for every loop body that keeps what it reads.
-/
import Derived.Test.YtppdcjjkkckokaaEdChk
import Derived.RangeFuncNested
import Derived.RangeFuncBound
import Derived.RangeFuncCalls
import Derived.RangeFuncLeaves
import Derived.RangeFuncBox
import Derived.Shelf.Abstract
import Derived.Shelf.RegionOpen
import Derived.OwnWalkIn
import Derived.TacticsInMore
import Derived.LoopNIn
import Derived.LoopIn
import Derived.Maps.AppendAt
namespace Go.Proofs.Ytppdcjjkkckokaa
open Go.RowKit Go.Shelf
attribute [local go_sem] Oper.semAt_some

/-- what a round keeps: all below n₀, the iterator's three boxes from lo on, every block of a change -/
structure Kp (n₀ lo : Nat) (W W' : World) : Prop where
  low : Below n₀ W W'
  box : ∀ k, lo ≤ k → k < lo + 3 → W'.heap[k]? = W.heap[k]?
  chg : ∀ (k : Nat) (cs : Array Value), W.heap[k]? = some (Obj.cells cs 59 (0, 0)) → W'.heap[k]? = some (Obj.cells cs 59 (0, 0))
section
variable {n₀ lo : Nat} {A B C : World}
theorem Kp.refl (W : World) : Kp n₀ lo W W := ⟨Below.refl _ _, fun _ _ _ => rfl, fun _ _ h => h⟩
theorem Kp.trans (h : Kp n₀ lo A B) (k : Kp n₀ lo B C) : Kp n₀ lo A C := ⟨h.low.trans k.low, fun j h1 h2 => (k.box j h1 h2).trans (h.box j h1 h2), fun j cs hj => k.chg j cs (h.chg j cs hj)⟩
theorem Kp.alloc {W : World} (hn : n₀ ≤ W.heap.size) (hl : lo + 3 ≤ W.heap.size) (o : Obj) : Kp n₀ lo W (W.alloc o) :=
  ⟨(Below.refl _ W).alloc hn o, fun k _ hk => Below.heap_alloc W o k (by omega), fun k cs hk => (Below.heap_alloc W o k (Array.getElem?_eq_some_iff.1 hk).1).trans hk⟩
theorem Kp.putObj {w : World} (hn : n₀ ≤ w.heap.size) (hl : lo + 3 ≤ w.heap.size) (W : World) (l : Nat) (o o' : Obj) (hlw : w.heap.size ≤ l) (h : W.heap[l]? = some o) (hc : o.isCells = false) (hw : o.isWalk = false) : Kp n₀ lo W (W.putObj l o') := by
  have hne : ∀ k, k ≠ l → (W.putObj l o').heap[k]? = W.heap[k]? := fun k hk => by simp [World.putObj, Ne.symm hk]
  refine ⟨belowK_b hn W l o o' hlw h hc hw, fun k _ hk => hne k (by omega), fun k cs hk => (hne k ?_).trans hk⟩
  rintro rfl
  rw [h] at hk
  cases hk
  cases hc
theorem Kp.drewN (W : World) (k : Nat) : Kp n₀ lo W (W.drewN k) := ⟨Below.dN (Below.refl _ W) k, fun _ _ _ => rfl, fun _ _ h => h⟩
end

/-- a piece of a script from n to m lines -/
abbrev Pie (n m : Int) := { x : Rn × Ch // Pc n m x }

theorem pieces_any (ao : Option Addr) (len c : Nat) (n m : Int) (w : World) :
    Calls Try.prog 54 #[.slice ao len c, .int .i64 n, .int .i64 m] w fun e w' =>
      e = .returned (.func (.func 70) #[] #[.pointer (some ⟨w.heap.size, 0, none⟩), .pointer (some ⟨w.heap.size + 1, 0, none⟩), .pointer (some ⟨w.heap.size + 1 + 1, 0, none⟩)]) ∧
      w' = ((w.alloc (.cells #[.slice ao len c] 22)).alloc (.cells #[.int .i64 n] 3)).alloc (.cells #[.int .i64 m] 3) := by
  go_enter Try.func54, Try.ntmps54
  go_wp2
  go_ret
  exact ⟨rfl, rfl⟩

theorem abides_alloc {α : Type} {B0 : Nat} {J : List α → World → Prop} (h : AbidesFrom B0 J) {s : List α} {W : World} (hJ : J s W) (o : Obj) : J s (W.alloc o) := h s W _ none hJ (World.grownBy_alloc W o none) (fun r e => by cases e)
theorem abides_drewN {α : Type} {B0 : Nat} {J : List α → World → Prop} (h : AbidesFrom B0 J) {s : List α} {W : World} (hJ : J s W) (k : Nat) : J s (W.drewN k) := h s W _ none hJ ⟨rfl, rfl, rfl, Nat.le_refl _, fun _ _ _ => rfl⟩ (fun r e => by cases e)

set_option maxRecDepth 100000 in
set_option maxHeartbeats 2000000 in
theorem pieces1_in (N : Nat) (hN : 1 ≤ N) (lp lo n₀ : Nat) (ao : Option Addr) (ca : Nat) (l : List Ch) (n m : Int) (hS : Hid (Script l n m)) (hn : n ≤ 9223372036854775807) (hm : m ≤ 9223372036854775807) (hlen : l.length ≤ 1099511627776)
    (J Jx : List (Pie n m) → World → Prop) (W : World) (hJ : AbidesFrom W.heap.size J)
    (hY : ∀ pre (x : Pie n m) W1, J pre W1 → pre.length < l.length + 1 → YieldAt Fence.wide (N - 1) Try.prog lp #[rnV x.1.1, chV x.1.2] W1 fun e W' =>
      (e = .returned (.bool true) ∧ J (pre ++ [x]) W' ∧ Kp n₀ lo W1 W') ∨ (e = .returned (.bool false) ∧ Jx (pre ++ [x]) W'))
    (hlo : n₀ ≤ lo) (hsz : lo + 3 ≤ W.heap.size) (hb0 : W.heap[lo]? = some (.cells #[.slice ao l.length ca] 22 (0, 0))) (hb1 : W.heap[lo + 1]? = some (.cells #[.int .i64 n] 3 (0, 0))) (hb2 : W.heap[lo + 1 + 1]? = some (.cells #[.int .i64 m] 3 (0, 0)))
    (hl : HCh W (.slice ao l.length ca) l) (hb : ∀ a, ao = some a → 0 < l.length → a.block < n₀) (h0 : J [] W) :
    CallsIn Fence.wide N Try.prog 70 #[.func (.yield lp) #[] #[], .pointer (some ⟨lo, 0, none⟩), .pointer (some ⟨lo + 1, 0, none⟩), .pointer (some ⟨lo + 1 + 1, 0, none⟩)] W fun e W' => (∃ v, e = .returned v) ∧
      ((∃ ys, ys.map (·.1) = piecesL 0 0 n m l ∧ J ys W') ∨ (∃ pre, True ∧ Jx pre W')) := by
  have d0 : W.cell? ⟨lo, 0, none⟩ = some (.slice ao l.length ca) := by rw [Lib.cell_of_heap hb0]; rfl
  refine callsIn_of_wp Try.func70 rfl trivial ?_ rfl
  simp only [Try.ntmps70, List.size_toArray, List.length_cons, List.length_nil, Nat.reduceAdd, Nat.reduceSub, Array.replicate_succ, Array.replicate_zero, List.push_toArray, List.append_toArray, List.nil_append, List.cons_append]
  gi_wp2
  gi_loopw [5, 6, 11] (fun av bv iv wr => ∃ (k : Nat) (a b : Int) (pre : List (Pie n m)), k ≤ l.length ∧ pre.length = k ∧ av = .int .i64 a ∧ bv = .int .i64 b ∧ iv = .int .i64 k ∧ 0 ≤ a ∧ a ≤ n ∧ 0 ≤ b ∧ b ≤ m ∧ Kp n₀ lo W wr ∧ J pre wr ∧ Hid (Right (decide (k = 0)) a b n m (l.drop k) ∧ pre.map (·.1) ++ piecesL a b n m (l.drop k) = piecesL 0 0 n m l)) (fun _ _ iv _ => l.length - (intOf iv).toNat)
  case atStart => exact ⟨0, 0, 0, [], Nat.zero_le _, rfl, rfl, rfl, rfl, by omega, hS.out.1, by omega, hS.out.2.1, Kp.refl W, h0, (⟨hS.out.2.2, rfl⟩ : _ ∧ _)⟩
  case round =>
    obtain ⟨k, a, b, pre, hk, hpl, rfl, rfl, rfl, ha, han, hb', hbm, hK, hJr, hR⟩ := hrel
    have hszr := hK.low.size
    by_cases hlt : k < l.length
    · have hlr : HCh wr (.slice ao l.length ca) l := by
        obtain ⟨bk, off, rfl, hbk, hc⟩ := HCh.at hl (by omega)
        rcases hl with ⟨h, _⟩ | ⟨ad, c, he, hnc, hcells⟩
        · cases h
        · cases he
          refine .inr ⟨_, _, rfl, hnc, fun j u hj => ?_⟩
          have h1 := hcells j u hj
          rw [World.cell?_of_block (w := W) (hK.low.block _ ?_)]
          · exact h1
          · have := hb _ rfl (by omega)
            rw [add_none]
            exact this
      obtain ⟨bk, off, rfl, hbk, hc⟩ := HCh.at hlr (by omega)
      obtain ⟨c0, c1, c2, c3⟩ := hc k hlt
      have hR' := hR.out
      rw [List.drop_eq_getElem_cons hlt] at hR'
      obtain ⟨c, hcd⟩ : ∃ c, l[k] = c := ⟨_, rfl⟩
      rw [hcd] at hR' c0 c1 c2 c3
      clear hc hcd hR
      have hnum := hR'.1.1.1
      rw [numB_iff] at hnum
      have hle := hR'.1.2.le
      have HR : Hid (Right (decide (k = 0)) a b n m (c :: l.drop (k + 1)) ∧ pre.map (·.1) ++ piecesL a b n m (c :: l.drop (k + 1)) = piecesL 0 0 n m l) := hR'
      have hpc := hR'.1.pc ha hb'
      have hAa := hR'.1.1.2.2.1
      clear hR'
      have i1 : 0 ≤ (k : Int) := by omega
      have i2 : (k : Int) < (l.length : Int) := by omega
      obtain ⟨A, AN, B, BN⟩ := c
      dsimp only at c0 c1 c2 c3 hnum hle hAa
      obtain ⟨⟨hA0, hA1⟩, ⟨hAN0, hAN1⟩, ⟨hB0, hB1⟩, ⟨hBN0, hBN1⟩, hpos⟩ := hnum
      have hK1 : Kp n₀ lo wr (wr.alloc (.cells #[.int .i64 A, .int .i64 AN, .int .i64 B, .int .i64 BN] 59)) := Kp.alloc (by omega) (by omega) _
      obtain ⟨fn, tmps, assign, body, hy, hRd⟩ := hY pre ⟨(⟨a, b, A - a⟩, ⟨A, AN, B, BN⟩), hpc⟩ (wr.alloc (.cells #[.int .i64 A, .int .i64 AN, .int .i64 B, .int .i64 BN] 59)) (abides_alloc hJ hJr _) (by omega)
      simp only [rnV, chV] at hy
      gi_wp2
      refine hRd.mono ?_
      rintro e W3 (⟨rfl, hJ3, hk3⟩ | ⟨rfl, hJx3⟩)
      · have hbox := hk3.chg wr.heap.size _ (_root_.Go.heap_alloc_new wr _)
        have e0 : W3.cell? ⟨wr.heap.size, 0, none⟩ = some (.int .i64 A) := by rw [Lib.cell_of_heap hbox]; rfl
        have e1 : W3.cell? ⟨wr.heap.size, 1, none⟩ = some (.int .i64 AN) := by rw [Lib.cell_of_heap hbox]; rfl
        have e2 : W3.cell? ⟨wr.heap.size, 2, none⟩ = some (.int .i64 B) := by rw [Lib.cell_of_heap hbox]; rfl
        have e3 : W3.cell? ⟨wr.heap.size, 3, none⟩ = some (.int .i64 BN) := by rw [Lib.cell_of_heap hbox]; rfl
        gi_wp2
        gi_region
        gi_wp2
        go_roundw
        case rel => exact ⟨k + 1, A + AN, B + BN, pre ++ [⟨(⟨a, b, A - a⟩, ⟨A, AN, B, BN⟩), hpc⟩], by omega, by simp; omega, by go_num, by go_num, by go_num, by omega, by omega, by omega, by omega, (hK.trans (hK1.trans hk3)).trans (Kp.drewN _ 1), abides_drewN hJ hJ3 1, (by
            have h := HR.out
            have e : decide (k + 1 = 0) = false := by simp
            show _ ∧ _
            rw [e]
            exact ⟨h.1.2, by rw [← h.2]; simp [piecesL]⟩)⟩
        case measure => simp [intOf]; omega
      · gi_wp2
        refine bodyPost_ret (results_none rfl _ _ _) rfl ?_
        exact ⟨⟨_, rfl⟩, .inr ⟨_, trivial, hJx3⟩⟩
    · have hR' := hR.out
      rw [List.drop_of_length_le (by omega)] at hR'
      have HR : Hid (Right (decide (k = 0)) a b n m [] ∧ pre.map (·.1) ++ piecesL a b n m [] = piecesL 0 0 n m l) := hR'
      have hpc := hR'.1.pcEnd ha hb'
      clear hR hR'
      have hx1 := (hK.box (lo + 1) (by omega) (by omega)).trans hb1
      have hx2 := (hK.box (lo + 1 + 1) (by omega) (by omega)).trans hb2
      have e1 : wr.cell? ⟨lo + 1, 0, none⟩ = some (.int .i64 n) := by rw [Lib.cell_of_heap hx1]; rfl
      have e2 : wr.cell? ⟨lo + 1 + 1, 0, none⟩ = some (.int .i64 m) := by rw [Lib.cell_of_heap hx2]; rfl
      obtain ⟨fn, tmps, assign, body, hy, hRd⟩ := hY pre ⟨(⟨a, b, n - a⟩, ⟨n, 0, m, 0⟩), hpc⟩ wr hJr (by omega)
      simp only [rnV, chV] at hy
      gi_wp2
      refine hRd.mono ?_
      rintro e W3 (⟨rfl, hJ3, hk3⟩ | ⟨rfl, hJx3⟩)
      · gi_wp2
        go_end0
        exact ⟨⟨_, rfl⟩, .inl ⟨_, by have h := HR.out.2; rw [← h]; simp [piecesL], hJ3⟩⟩
      · gi_wp2
        go_end0
        exact ⟨⟨_, rfl⟩, .inr ⟨_, trivial, hJx3⟩⟩

theorem HCh.lt {w : World} {ao : Option Addr} {n c : Nat} {l : List Ch} (h : HCh w (.slice ao n c) l) (a : Addr) (ha : ao = some a) (h0 : 0 < l.length) : a.block < w.heap.size := by
  obtain ⟨b, off, hb, hlt, _⟩ := HCh.at h h0
  rw [ha] at hb
  cases hb
  exact hlt

/-- the iterator over the pieces of a right script -/
theorem pieces_stops (N : Nat) (hN : 1 ≤ N) (lo n₀ : Nat) (ao : Option Addr) (ca : Nat) (l : List Ch) (n m : Int) (hS : Script l n m) (hn : n ≤ 9223372036854775807) (hm : m ≤ 9223372036854775807) (hlen : l.length ≤ 1099511627776) (w : World)
    (hlo : n₀ ≤ lo) (hsz : lo + 3 ≤ w.heap.size) (hb0 : w.heap[lo]? = some (.cells #[.slice ao l.length ca] 22 (0, 0))) (hb1 : w.heap[lo + 1]? = some (.cells #[.int .i64 n] 3 (0, 0))) (hb2 : w.heap[lo + 1 + 1]? = some (.cells #[.int .i64 m] 3 (0, 0)))
    (hl : HCh w (.slice ao l.length ca) l) (hb : ∀ a, ao = some a → 0 < l.length → a.block < n₀) :
    SeqStopsK Fence.wide N Try.prog 70 #[.pointer (some ⟨lo, 0, none⟩), .pointer (some ⟨lo + 1, 0, none⟩), .pointer (some ⟨lo + 1 + 1, 0, none⟩)] (fun x : Pie n m => #[rnV x.1.1, chV x.1.2]) (Kp n₀ lo) (fun ys => ys.map (·.1) = piecesL 0 0 n m l) (fun _ => True) (l.length + 1) w := fun lp J Jx W hW hJ _ hY h0 =>
  pieces1_in N hN lp lo n₀ ao ca l n m hS hn hm hlen J Jx W hJ hY hlo (Nat.le_trans hsz hW.size) ((hW.block _ (by omega)).trans hb0) ((hW.block _ (by omega)).trans hb1) ((hW.block _ (by omega)).trans hb2) (HCh.keep hl hW (Nat.le_refl _)) hb h0
end Go.Proofs.Ytppdcjjkkckokaa
