/-
  Texts that belong together, joined: EdChk, EdIter, EdOwn, EdKeep, EdWalk, EdMk, MiLen.
-/
import Derived.Test.YtjhanfiohfakoaaGreatDoorPartA4
import Derived.RangeFuncNested
import Derived.RangeFuncBound
import Derived.RangeFuncCalls
import Derived.RangeFuncLeaves
import Derived.RangeFuncBox
import Derived.Shelf.Abstract
import Derived.Shelf.RegionOpen
import Derived.OwnWalkIn
import Derived.TacticsInMore
import Derived.LoopNIn
import Derived.LoopIn
import Derived.Maps.AppendAt
import Derived.Deep.RegionHeld3
import Derived.Deep.CutRange

/- Which lists of changes are edit scripts: the code's Check, walked. -/
set_option maxRecDepth 20000
namespace Go.Proofs.YtjhanfiohfakoaaGreatDoor
open Go.RowKit

theorem ret_bool {a b : Bool} (h : a = b) : Ending.returned (.bool a) = .returned (.bool b) := by rw [h]
theorem ret_int {k : IntKind} {a b : Int} (h : a = b) : Ending.returned (.int k a) = .returned (.int k b) := by rw [h]
set_option maxHeartbeats 1000000 in
theorem numbered_any (c : Ch) (w : World) : Calls Tryz.prog 42 #[chV c] w fun e w' => e = .returned (.bool (numB c)) ∧ Below w.heap.size w w' := by
  obtain ⟨A, AN, B, BN⟩ := c
  unfold chV
  dsimp only
  have hB : Below w.heap.size w (w.alloc (.cells #[.int .i64 A, .int .i64 AN, .int .i64 B, .int .i64 BN] 53)) := (Below.refl _ w).alloc (Nat.le_refl _) _
  obtain ⟨b, hb⟩ : ∃ b, numB ⟨A, AN, B, BN⟩ = b := ⟨_, rfl⟩
  rw [hb]
  have Hb : Hid (numB ⟨A, AN, B, BN⟩ = b) := hb
  clear hb
  have i0 : ∀ w, (Instr.index 105 (.agg #[.int .i64 A, .int .i64 AN, .int .i64 B, .int .i64 BN]) (.int .i64 0)).run Tryz.prog w = .ok (.int .i64 A) w := fun _ => by kernel_rfl
  have i1 : ∀ w, (Instr.index 105 (.agg #[.int .i64 A, .int .i64 AN, .int .i64 B, .int .i64 BN]) (.int .i64 1)).run Tryz.prog w = .ok (.int .i64 AN) w := fun _ => by kernel_rfl
  have i2 : ∀ w, (Instr.index 105 (.agg #[.int .i64 A, .int .i64 AN, .int .i64 B, .int .i64 BN]) (.int .i64 2)).run Tryz.prog w = .ok (.int .i64 B) w := fun _ => by kernel_rfl
  have i3 : ∀ w, (Instr.index 105 (.agg #[.int .i64 A, .int .i64 AN, .int .i64 B, .int .i64 BN]) (.int .i64 3)).run Tryz.prog w = .ok (.int .i64 BN) w := fun _ => by kernel_rfl
  go_enter Tryz.func42, Tryz.ntmps42
  go_wp2
  go_loopw [14] (fun i wr => ∃ k : Nat, k ≤ 4 ∧ i = .int .i64 k ∧ wr = w.alloc (.cells #[.int .i64 A, .int .i64 AN, .int .i64 B, .int .i64 BN] 53) ∧ Hid ((0 < k → (0 ≤ A ∧ A ≤ 2147483647)) ∧ (1 < k → (0 ≤ AN ∧ AN ≤ 2147483647)) ∧ (2 < k → (0 ≤ B ∧ B ≤ 2147483647)) ∧ (3 < k → (0 ≤ BN ∧ BN ≤ 2147483647)))) (fun i _ => 4 - (intOf i).toNat)
  case atStart => exact ⟨0, Nat.zero_le _, rfl, rfl, (⟨fun h => absurd h (by omega), fun h => absurd h (by omega), fun h => absurd h (by omega), fun h => absurd h (by omega)⟩)⟩
  case round =>
    obtain ⟨k, hk, rfl, rfl, hok⟩ := hrel
    rcases (by omega : k = 0 ∨ k = 1 ∨ k = 2 ∨ k = 3 ∨ k = 4) with rfl | rfl | rfl | rfl | rfl
    · by_cases h0 : A < 0
      · go_wp2
        go_ret
        refine ⟨ret_bool ?_, hB⟩
        rw [← Hb.out]
        simp [numB, nat31]
        omega
      · by_cases h1 : 2147483647 < A
        · go_wp2
          go_ret
          refine ⟨ret_bool ?_, hB⟩
          rw [← Hb.out]
          simp [numB, nat31]
          omega
        · go_wp2
          go_roundw
          case rel => exact ⟨1, by omega, by go_num, trivial, (by have := hok.out; show _ ∧ _ ∧ _ ∧ _; refine ⟨?_, ?_, ?_, ?_⟩ <;> intro _ <;> omega)⟩
          case measure => simp [intOf]
    · by_cases h0 : AN < 0
      · go_wp2
        go_ret
        refine ⟨ret_bool ?_, hB⟩
        rw [← Hb.out]
        simp [numB, nat31]
        omega
      · by_cases h1 : 2147483647 < AN
        · go_wp2
          go_ret
          refine ⟨ret_bool ?_, hB⟩
          rw [← Hb.out]
          simp [numB, nat31]
          omega
        · go_wp2
          go_roundw
          case rel => exact ⟨2, by omega, by go_num, trivial, (by have := hok.out; show _ ∧ _ ∧ _ ∧ _; refine ⟨?_, ?_, ?_, ?_⟩ <;> intro _ <;> omega)⟩
          case measure => simp [intOf]
    · by_cases h0 : B < 0
      · go_wp2
        go_ret
        refine ⟨ret_bool ?_, hB⟩
        rw [← Hb.out]
        simp [numB, nat31]
        omega
      · by_cases h1 : 2147483647 < B
        · go_wp2
          go_ret
          refine ⟨ret_bool ?_, hB⟩
          rw [← Hb.out]
          simp [numB, nat31]
          omega
        · go_wp2
          go_roundw
          case rel => exact ⟨3, by omega, by go_num, trivial, (by have := hok.out; show _ ∧ _ ∧ _ ∧ _; refine ⟨?_, ?_, ?_, ?_⟩ <;> intro _ <;> omega)⟩
          case measure => simp [intOf]
    · by_cases h0 : BN < 0
      · go_wp2
        go_ret
        refine ⟨ret_bool ?_, hB⟩
        rw [← Hb.out]
        simp [numB, nat31]
        omega
      · by_cases h1 : 2147483647 < BN
        · go_wp2
          go_ret
          refine ⟨ret_bool ?_, hB⟩
          rw [← Hb.out]
          simp [numB, nat31]
          omega
        · go_wp2
          go_roundw
          case rel => exact ⟨4, by omega, by go_num, trivial, (by have := hok.out; show _ ∧ _ ∧ _ ∧ _; refine ⟨?_, ?_, ?_, ?_⟩ <;> intro _ <;> omega)⟩
          case measure => simp [intOf]
    · have hok' := hok.out
      by_cases h0 : 0 < AN
      · go_wp2
        go_ret
        refine ⟨ret_bool ?_, hB⟩
        rw [← Hb.out]
        simp [numB, nat31]
        omega
      · by_cases h1 : 0 < BN
        · go_wp2
          go_ret
          refine ⟨ret_bool ?_, hB⟩
          rw [← Hb.out]
          simp [numB, nat31]
          omega
        · go_wp2
          go_ret
          refine ⟨ret_bool ?_, hB⟩
          rw [← Hb.out]
          simp [numB, nat31]
          omega

set_option maxRecDepth 10000 in
set_option maxHeartbeats 2000000 in
theorem Check_f (l : List Ch) (n m r : Int) (v : Value) (w : World) (hl : HCh w v l) (hlen : l.length ≤ 1099511627776) (hn : n ≤ 9223372036854775807) (hm : m ≤ 9223372036854775807) (hr : Hid (chk l n m = r)) :
    Calls Tryz.prog 25 #[v, .int .i64 n, .int .i64 m] w fun e w' => e = .returned (.int .i64 r) ∧ Below w.heap.size w w' := by
  obtain ⟨ao, ca, rfl⟩ := Holds.form hl
  by_cases hn0 : n < 0
  · go_enter Tryz.func25, Tryz.ntmps25
    go_wp2
    go_ret
    refine ⟨ret_int ?_, Below.refl _ w⟩
    rw [← hr.out, chk_no (fun h => by have := h.1; omega)]
  by_cases hm0 : m < 0
  · go_enter Tryz.func25, Tryz.ntmps25
    go_wp2
    go_ret
    refine ⟨ret_int ?_, Below.refl _ w⟩
    rw [← hr.out, chk_no (fun h => by have := h.2.1; omega)]
  go_enter Tryz.func25, Tryz.ntmps25
  go_wp2
  go_loopw [7, 8, 19] (fun av bv iv wr => ∃ (k : Nat) (a b : Int), k ≤ l.length ∧ av = .int .i64 a ∧ bv = .int .i64 b ∧ iv = .int .i64 k ∧ 0 ≤ a ∧ a ≤ n ∧ 0 ≤ b ∧ b ≤ m ∧ Below w.heap.size w wr ∧ Hid (Script l n m ↔ Right (decide (k = 0)) a b n m (l.drop k))) (fun _ _ iv _ => l.length - (intOf iv).toNat)
  case atStart => exact ⟨0, 0, 0, Nat.zero_le _, rfl, rfl, rfl, by omega, by omega, by omega, by omega, Below.refl _ w, (by show _ ↔ _; simp only [Script, List.drop_zero, decide_true]; constructor; exact fun h => h.2.2; exact fun h => ⟨by omega, by omega, h⟩)⟩
  case round =>
    obtain ⟨k, a, b, hk, rfl, rfl, rfl, ha, han, hb, hbm, hB, hR⟩ := hrel
    by_cases hlt : k < l.length
    · obtain ⟨bk, off, rfl, hbk, hc⟩ := HCh.at (HCh.keep hl hB (Nat.le_refl _)) (by omega)
      obtain ⟨c0, c1, c2, c3⟩ := hc k hlt
      have hR' := hR.out
      rw [List.drop_eq_getElem_cons hlt] at hR'
      obtain ⟨c, hcd⟩ : ∃ c, l[k] = c := ⟨_, rfl⟩
      rw [hcd] at hR' c0 c1 c2 c3
      clear hc hcd hR
      have HR : Hid (Script l n m ↔ Right (decide (k = 0)) a b n m (c :: l.drop (k + 1))) := hR'
      clear hR'
      have i1 : 0 ≤ (k : Int) := by omega
      have i2 : (k : Int) < (l.length : Int) := by omega
      obtain ⟨A, AN, B, BN⟩ := c
      dsimp only at c0 c1 c2 c3
      have hsz := hB.size
      go_wp2_with fail
      have hB1 : Below w.heap.size w (wr.alloc (Obj.cells #[Value.int IntKind.i64 A, Value.int IntKind.i64 AN, Value.int IntKind.i64 B, Value.int IntKind.i64 BN] 53)) := hB.alloc hsz _
      refine (numbered_any ⟨A, AN, B, BN⟩ _).mono ?_
      rintro e w1 ⟨rfl, hb1⟩
      have hB2 : Below w.heap.size w w1 := hB1.trans (hb1.mono (by simp; omega))
      have hbox := hb1.block wr.heap.size (by simp)
      rw [_root_.Go.heap_alloc_new] at hbox
      have d0 : w1.cell? ⟨wr.heap.size, 0, none⟩ = some (.int .i64 A) := by rw [Lib.cell_of_heap hbox]; rfl
      have d1 : w1.cell? ⟨wr.heap.size, 1, none⟩ = some (.int .i64 AN) := by rw [Lib.cell_of_heap hbox]; rfl
      have d2 : w1.cell? ⟨wr.heap.size, 2, none⟩ = some (.int .i64 B) := by rw [Lib.cell_of_heap hbox]; rfl
      have d3 : w1.cell? ⟨wr.heap.size, 3, none⟩ = some (.int .i64 BN) := by rw [Lib.cell_of_heap hbox]; rfl
      clear hbox c0 c1 c2 c3 hb1 hB1 hB
      by_cases hq : numB ⟨A, AN, B, BN⟩ = true
      · rw [hq]
        have HQ : Hid (numB ⟨A, AN, B, BN⟩ = true) := hq
        rw [numB_iff] at hq
        dsimp only at hq
        obtain ⟨⟨hA0, hA1⟩, ⟨hAN0, hAN1⟩, ⟨hB0, hB1⟩, ⟨hBN0, hBN1⟩, hpos⟩ := hq
        by_cases h1 : A - a = B - b
        · by_cases h2 : AN > n - A
          · go_wp2_with fail
            go_ret
            refine ⟨ret_int ?_, hB2⟩
            rw [← hr.out, chk_no]
            exact fun h => by have h5 := HR.out.1 h; obtain ⟨⟨q1, q2, q3, q4⟩, q5⟩ := h5; have q6 := q5.le; dsimp only at q6; omega
          by_cases h3 : BN > m - B
          · go_wp2_with fail
            go_ret
            refine ⟨ret_int ?_, hB2⟩
            rw [← hr.out, chk_no]
            exact fun h => by have h5 := HR.out.1 h; obtain ⟨⟨q1, q2, q3, q4⟩, q5⟩ := h5; have q6 := q5.le; dsimp only at q6; omega
          by_cases h4 : A < a
          · go_wp2_with fail
            go_ret
            refine ⟨ret_int ?_, hB2⟩
            rw [← hr.out, chk_no]
            exact fun h => by have h5 := HR.out.1 h; obtain ⟨⟨q1, q2, q3, q4⟩, q5⟩ := h5; have q6 := q5.le; dsimp only at q3; omega
          by_cases h5 : A = a
          · by_cases h6 : 0 < (k : Int)
            · go_wp2_with fail
              go_ret
              refine ⟨ret_int ?_, hB2⟩
              rw [← hr.out, chk_no]
              exact fun h => by
                obtain ⟨⟨q1, q2, q3, q4⟩, q5⟩ := HR.out.1 h
                rcases q4 with q4 | q4
                · have := of_decide_eq_true q4; omega
                · dsimp only at q4; omega
            · go_wp2_with fail
              go_quiet (fail)
              go_wp2
              go_roundw
              case rel => exact ⟨k + 1, A + AN, B + BN, by omega, by go_num, by go_num, by go_num, by omega, by omega, by omega, by omega, Below.dN hB2 _, (by
                show _ ↔ _
                refine HR.out.trans ?_
                have : decide (k + 1 = 0) = false := by simp
                rw [this]
                exact ⟨fun h => h.2, fun h => ⟨⟨HQ.out, h1, by dsimp only; omega, .inl (decide_eq_true (by omega))⟩, h⟩⟩)⟩
              case measure => simp [intOf]; omega
          · go_wp2_with fail
            go_quiet (fail)
            go_wp2
            go_roundw
            case rel => exact ⟨k + 1, A + AN, B + BN, by omega, by go_num, by go_num, by go_num, by omega, by omega, by omega, by omega, Below.dN hB2 _, (by
                show _ ↔ _
                refine HR.out.trans ?_
                have : decide (k + 1 = 0) = false := by simp
                rw [this]
                exact ⟨fun h => h.2, fun h => ⟨⟨HQ.out, h1, by dsimp only; omega, .inr (by dsimp only; omega)⟩, h⟩⟩)⟩
            case measure => simp [intOf]; omega
        · go_wp2_with fail
          go_ret
          refine ⟨ret_int ?_, hB2⟩
          rw [← hr.out, chk_no]
          exact fun h => by have h5 := HR.out.1 h; obtain ⟨⟨q1, q2, q3, q4⟩, q5⟩ := h5; have q6 := q5.le; dsimp only at q2; omega
      · have hq' : numB ⟨A, AN, B, BN⟩ = false := by simpa using hq
        have HQ : Hid (numB ⟨A, AN, B, BN⟩ = false) := hq'
        rw [hq']
        clear hq hq'
        go_wp2_with fail
        go_ret
        refine ⟨ret_int ?_, hB2⟩
        rw [← hr.out, chk_no]
        exact fun h => by
          obtain ⟨⟨q1, q2, q3, q4⟩, q5⟩ := HR.out.1 h
          rw [HQ.out] at q1
          cases q1
    · by_cases he : n - a = m - b
      · go_wp2
        go_ret
        refine ⟨ret_int ?_, hB⟩
        rw [← hr.out, chk_ok]
        have := hR.out
        rw [List.drop_of_length_le (by omega)] at this
        exact this.2 ⟨han, hbm, he⟩
      · go_wp2
        go_ret
        refine ⟨ret_int ?_, hB⟩
        rw [← hr.out, chk_no]
        have := hR.out
        rw [List.drop_of_length_le (by omega)] at this
        exact fun h => he (this.1 h).2.2
end Go.Proofs.YtjhanfiohfakoaaGreatDoor

/- The iterator over a script's pieces: its contract for every loop body that keeps what it reads. -/
set_option maxRecDepth 20000
namespace Go.Proofs.YtjhanfiohfakoaaGreatDoor
open Go.RowKit Go.Shelf
attribute [local go_sem] Oper.semAt_some

/-- what a round keeps: all below n₀, the iterator's three boxes from lo on, every block of a change -/
structure Kp (n₀ lo : Nat) (W W' : World) : Prop where
  low : Below n₀ W W'
  box : ∀ k, lo ≤ k → k < lo + 3 → W'.heap[k]? = W.heap[k]?
  chg : ∀ (k : Nat) (cs : Array Value), W.heap[k]? = some (Obj.cells cs 53 (0, 0)) → W'.heap[k]? = some (Obj.cells cs 53 (0, 0))
section
variable {n₀ lo : Nat} {A B C : World}
theorem Kp.refl (W : World) : Kp n₀ lo W W := ⟨Below.refl _ _, fun _ _ _ => rfl, fun _ _ h => h⟩
theorem Kp.trans (h : Kp n₀ lo A B) (k : Kp n₀ lo B C) : Kp n₀ lo A C := ⟨h.low.trans k.low, fun j h1 h2 => (k.box j h1 h2).trans (h.box j h1 h2), fun j cs hj => k.chg j cs (h.chg j cs hj)⟩
theorem Kp.alloc {W : World} (hn : n₀ ≤ W.heap.size) (hl : lo + 3 ≤ W.heap.size) (o : Obj) : Kp n₀ lo W (W.alloc o) :=
  ⟨(Below.refl _ W).alloc hn o, fun k _ hk => Below.heap_alloc W o k (by omega), fun k cs hk => (Below.heap_alloc W o k (Array.getElem?_eq_some_iff.1 hk).1).trans hk⟩
theorem Kp.putObj {w : World} (hn : n₀ ≤ w.heap.size) (hl : lo + 3 ≤ w.heap.size) (W : World) (l : Nat) (o o' : Obj) (hlw : w.heap.size ≤ l) (h : W.heap[l]? = some o) (hc : o.isCells = false) (hw : o.isWalk = false) : Kp n₀ lo W (W.putObj l o') := by
  have hne : ∀ k, k ≠ l → (W.putObj l o').heap[k]? = W.heap[k]? := fun k hk => by simp [World.putObj, Ne.symm hk]
  refine ⟨belowK_b hn W l o o' hlw h hc hw, fun k _ hk => hne k (by omega), fun k cs hk => (hne k ?_).trans hk⟩
  rintro rfl
  rw [h] at hk
  cases hk
  cases hc
theorem Kp.drewN (W : World) (k : Nat) : Kp n₀ lo W (W.drewN k) := ⟨Below.dN (Below.refl _ W) k, fun _ _ _ => rfl, fun _ _ h => h⟩
end

/-- a piece of a script from n to m lines -/
abbrev Pie (n m : Int) := { x : Rn × Ch // Pc n m x }

theorem pieces_any (ao : Option Addr) (len c : Nat) (n m : Int) (w : World) :
    Calls Tryz.prog 26 #[.slice ao len c, .int .i64 n, .int .i64 m] w fun e w' =>
      e = .returned (.func (.func 43) #[] #[.pointer (some ⟨w.heap.size, 0, none⟩), .pointer (some ⟨w.heap.size + 1, 0, none⟩), .pointer (some ⟨w.heap.size + 1 + 1, 0, none⟩)]) ∧
      w' = ((w.alloc (.cells #[.slice ao len c] 25)).alloc (.cells #[.int .i64 n] 3)).alloc (.cells #[.int .i64 m] 3) := by
  go_enter Tryz.func26, Tryz.ntmps26
  go_wp2
  go_ret
  exact ⟨rfl, rfl⟩

theorem abides_alloc {α : Type} {B0 : Nat} {J : List α → World → Prop} (h : AbidesFrom B0 J) {s : List α} {W : World} (hJ : J s W) (o : Obj) : J s (W.alloc o) := h s W _ none hJ (World.grownBy_alloc W o none) (fun r e => by cases e)
theorem abides_drewN {α : Type} {B0 : Nat} {J : List α → World → Prop} (h : AbidesFrom B0 J) {s : List α} {W : World} (hJ : J s W) (k : Nat) : J s (W.drewN k) := h s W _ none hJ ⟨rfl, rfl, rfl, Nat.le_refl _, fun _ _ _ => rfl⟩ (fun r e => by cases e)

set_option maxRecDepth 100000 in
set_option maxHeartbeats 2000000 in
theorem pieces1_in (N : Nat) (hN : 1 ≤ N) (lp lo n₀ : Nat) (ao : Option Addr) (ca : Nat) (l : List Ch) (n m : Int) (hS : Hid (Script l n m)) (hn : n ≤ 9223372036854775807) (hm : m ≤ 9223372036854775807) (hlen : l.length ≤ 1099511627776)
    (J Jx : List (Pie n m) → World → Prop) (W : World) (hJ : AbidesFrom W.heap.size J)
    (hY : ∀ pre (x : Pie n m) W1, J pre W1 → pre.length < l.length + 1 → YieldAt Fence.wide (N - 1) Tryz.prog lp #[rnV x.1.1, chV x.1.2] W1 fun e W' =>
      (e = .returned (.bool true) ∧ J (pre ++ [x]) W' ∧ Kp n₀ lo W1 W') ∨ (e = .returned (.bool false) ∧ Jx (pre ++ [x]) W'))
    (hlo : n₀ ≤ lo) (hsz : lo + 3 ≤ W.heap.size) (hb0 : W.heap[lo]? = some (.cells #[.slice ao l.length ca] 25 (0, 0))) (hb1 : W.heap[lo + 1]? = some (.cells #[.int .i64 n] 3 (0, 0))) (hb2 : W.heap[lo + 1 + 1]? = some (.cells #[.int .i64 m] 3 (0, 0)))
    (hl : HCh W (.slice ao l.length ca) l) (hb : ∀ a, ao = some a → 0 < l.length → a.block < n₀) (h0 : J [] W) :
    CallsIn Fence.wide N Tryz.prog 43 #[.func (.yield lp) #[] #[], .pointer (some ⟨lo, 0, none⟩), .pointer (some ⟨lo + 1, 0, none⟩), .pointer (some ⟨lo + 1 + 1, 0, none⟩)] W fun e W' => (∃ v, e = .returned v) ∧
      ((∃ ys, ys.map (·.1) = piecesL 0 0 n m l ∧ J ys W') ∨ (∃ pre, True ∧ Jx pre W')) := by
  have d0 : W.cell? ⟨lo, 0, none⟩ = some (.slice ao l.length ca) := by rw [Lib.cell_of_heap hb0]; rfl
  refine callsIn_of_wp Tryz.func43 rfl trivial ?_ rfl
  simp only [Tryz.ntmps43, List.size_toArray, List.length_cons, List.length_nil, Nat.reduceAdd, Nat.reduceSub, Array.replicate_succ, Array.replicate_zero, List.push_toArray, List.append_toArray, List.nil_append, List.cons_append]
  gi_wp2
  gi_loopw [5, 6, 11] (fun av bv iv wr => ∃ (k : Nat) (a b : Int) (pre : List (Pie n m)), k ≤ l.length ∧ pre.length = k ∧ av = .int .i64 a ∧ bv = .int .i64 b ∧ iv = .int .i64 k ∧ 0 ≤ a ∧ a ≤ n ∧ 0 ≤ b ∧ b ≤ m ∧ Kp n₀ lo W wr ∧ J pre wr ∧ Hid (Right (decide (k = 0)) a b n m (l.drop k) ∧ pre.map (·.1) ++ piecesL a b n m (l.drop k) = piecesL 0 0 n m l)) (fun _ _ iv _ => l.length - (intOf iv).toNat)
  case atStart => exact ⟨0, 0, 0, [], Nat.zero_le _, rfl, rfl, rfl, rfl, by omega, hS.out.1, by omega, hS.out.2.1, Kp.refl W, h0, (⟨hS.out.2.2, rfl⟩ : _ ∧ _)⟩
  case round =>
    obtain ⟨k, a, b, pre, hk, hpl, rfl, rfl, rfl, ha, han, hb', hbm, hK, hJr, hR⟩ := hrel
    have hszr := hK.low.size
    by_cases hlt : k < l.length
    · have hlr : HCh wr (.slice ao l.length ca) l := by
        obtain ⟨bk, off, rfl, hbk, hc⟩ := HCh.at hl (by omega)
        rcases hl with ⟨h, _⟩ | ⟨ad, c, he, hnc, hcells⟩
        · cases h
        · cases he
          refine .inr ⟨_, _, rfl, hnc, fun j u hj => ?_⟩
          have h1 := hcells j u hj
          rw [World.cell?_of_block (w := W) (hK.low.block _ ?_)]
          · exact h1
          · have := hb _ rfl (by omega)
            rw [add_none]
            exact this
      obtain ⟨bk, off, rfl, hbk, hc⟩ := HCh.at hlr (by omega)
      obtain ⟨c0, c1, c2, c3⟩ := hc k hlt
      have hR' := hR.out
      rw [List.drop_eq_getElem_cons hlt] at hR'
      obtain ⟨c, hcd⟩ : ∃ c, l[k] = c := ⟨_, rfl⟩
      rw [hcd] at hR' c0 c1 c2 c3
      clear hc hcd hR
      have hnum := hR'.1.1.1
      rw [numB_iff] at hnum
      have hle := hR'.1.2.le
      have HR : Hid (Right (decide (k = 0)) a b n m (c :: l.drop (k + 1)) ∧ pre.map (·.1) ++ piecesL a b n m (c :: l.drop (k + 1)) = piecesL 0 0 n m l) := hR'
      have hpc := hR'.1.pc ha hb'
      have hAa := hR'.1.1.2.2.1
      clear hR'
      have i1 : 0 ≤ (k : Int) := by omega
      have i2 : (k : Int) < (l.length : Int) := by omega
      obtain ⟨A, AN, B, BN⟩ := c
      dsimp only at c0 c1 c2 c3 hnum hle hAa
      obtain ⟨⟨hA0, hA1⟩, ⟨hAN0, hAN1⟩, ⟨hB0, hB1⟩, ⟨hBN0, hBN1⟩, hpos⟩ := hnum
      have hK1 : Kp n₀ lo wr (wr.alloc (.cells #[.int .i64 A, .int .i64 AN, .int .i64 B, .int .i64 BN] 53)) := Kp.alloc (by omega) (by omega) _
      obtain ⟨fn, tmps, assign, body, hy, hRd⟩ := hY pre ⟨(⟨a, b, A - a⟩, ⟨A, AN, B, BN⟩), hpc⟩ (wr.alloc (.cells #[.int .i64 A, .int .i64 AN, .int .i64 B, .int .i64 BN] 53)) (abides_alloc hJ hJr _) (by omega)
      simp only [rnV, chV] at hy
      gi_wp2
      refine hRd.mono ?_
      rintro e W3 (⟨rfl, hJ3, hk3⟩ | ⟨rfl, hJx3⟩)
      · have hbox := hk3.chg wr.heap.size _ (_root_.Go.heap_alloc_new wr _)
        have e0 : W3.cell? ⟨wr.heap.size, 0, none⟩ = some (.int .i64 A) := by rw [Lib.cell_of_heap hbox]; rfl
        have e1 : W3.cell? ⟨wr.heap.size, 1, none⟩ = some (.int .i64 AN) := by rw [Lib.cell_of_heap hbox]; rfl
        have e2 : W3.cell? ⟨wr.heap.size, 2, none⟩ = some (.int .i64 B) := by rw [Lib.cell_of_heap hbox]; rfl
        have e3 : W3.cell? ⟨wr.heap.size, 3, none⟩ = some (.int .i64 BN) := by rw [Lib.cell_of_heap hbox]; rfl
        gi_wp2
        gi_region
        gi_wp2
        go_roundw
        case rel => exact ⟨k + 1, A + AN, B + BN, pre ++ [⟨(⟨a, b, A - a⟩, ⟨A, AN, B, BN⟩), hpc⟩], by omega, by simp; omega, by go_num, by go_num, by go_num, by omega, by omega, by omega, by omega, (hK.trans (hK1.trans hk3)).trans (Kp.drewN _ 1), abides_drewN hJ hJ3 1, (by
            have h := HR.out
            have e : decide (k + 1 = 0) = false := by simp
            show _ ∧ _
            rw [e]
            exact ⟨h.1.2, by rw [← h.2]; simp [piecesL]⟩)⟩
        case measure => simp [intOf]; omega
      · gi_wp2
        refine bodyPost_ret (results_none rfl _ _ _) rfl ?_
        exact ⟨⟨_, rfl⟩, .inr ⟨_, trivial, hJx3⟩⟩
    · have hR' := hR.out
      rw [List.drop_of_length_le (by omega)] at hR'
      have HR : Hid (Right (decide (k = 0)) a b n m [] ∧ pre.map (·.1) ++ piecesL a b n m [] = piecesL 0 0 n m l) := hR'
      have hpc := hR'.1.pcEnd ha hb'
      clear hR hR'
      have hx1 := (hK.box (lo + 1) (by omega) (by omega)).trans hb1
      have hx2 := (hK.box (lo + 1 + 1) (by omega) (by omega)).trans hb2
      have e1 : wr.cell? ⟨lo + 1, 0, none⟩ = some (.int .i64 n) := by rw [Lib.cell_of_heap hx1]; rfl
      have e2 : wr.cell? ⟨lo + 1 + 1, 0, none⟩ = some (.int .i64 m) := by rw [Lib.cell_of_heap hx2]; rfl
      obtain ⟨fn, tmps, assign, body, hy, hRd⟩ := hY pre ⟨(⟨a, b, n - a⟩, ⟨n, 0, m, 0⟩), hpc⟩ wr hJr (by omega)
      simp only [rnV, chV] at hy
      gi_wp2
      refine hRd.mono ?_
      rintro e W3 (⟨rfl, hJ3, hk3⟩ | ⟨rfl, hJx3⟩)
      · gi_wp2
        go_end0
        exact ⟨⟨_, rfl⟩, .inl ⟨_, by have h := HR.out.2; rw [← h]; simp [piecesL], hJ3⟩⟩
      · gi_wp2
        go_end0
        exact ⟨⟨_, rfl⟩, .inr ⟨_, trivial, hJx3⟩⟩

theorem HCh.lt {w : World} {ao : Option Addr} {n c : Nat} {l : List Ch} (h : HCh w (.slice ao n c) l) (a : Addr) (ha : ao = some a) (h0 : 0 < l.length) : a.block < w.heap.size := by
  obtain ⟨b, off, hb, hlt, _⟩ := HCh.at h h0
  rw [ha] at hb
  cases hb
  exact hlt

/-- the iterator over the pieces of a right script -/
theorem pieces_stops (N : Nat) (hN : 1 ≤ N) (lo n₀ : Nat) (ao : Option Addr) (ca : Nat) (l : List Ch) (n m : Int) (hS : Script l n m) (hn : n ≤ 9223372036854775807) (hm : m ≤ 9223372036854775807) (hlen : l.length ≤ 1099511627776) (w : World)
    (hlo : n₀ ≤ lo) (hsz : lo + 3 ≤ w.heap.size) (hb0 : w.heap[lo]? = some (.cells #[.slice ao l.length ca] 25 (0, 0))) (hb1 : w.heap[lo + 1]? = some (.cells #[.int .i64 n] 3 (0, 0))) (hb2 : w.heap[lo + 1 + 1]? = some (.cells #[.int .i64 m] 3 (0, 0)))
    (hl : HCh w (.slice ao l.length ca) l) (hb : ∀ a, ao = some a → 0 < l.length → a.block < n₀) :
    SeqStopsK Fence.wide N Tryz.prog 43 #[.pointer (some ⟨lo, 0, none⟩), .pointer (some ⟨lo + 1, 0, none⟩), .pointer (some ⟨lo + 1 + 1, 0, none⟩)] (fun x : Pie n m => #[rnV x.1.1, chV x.1.2]) (Kp n₀ lo) (fun ys => ys.map (·.1) = piecesL 0 0 n m l) (fun _ => True) (l.length + 1) w := fun lp J Jx W hW hJ _ hY h0 =>
  pieces1_in N hN lp lo n₀ ao ca l n m hS hn hm hlen J Jx W hJ hY hlo (Nat.le_trans hsz hW.size) ((hW.block _ (by omega)).trans hb0) ((hW.block _ (by omega)).trans hb1) ((hW.block _ (by omega)).trans hb2) (HCh.keep hl hW (Nat.le_refl _)) hb h0
end Go.Proofs.YtjhanfiohfakoaaGreatDoor

/- A row of the caller's own, in a box, within a range over the iterator. -/
set_option maxRecDepth 20000
namespace Go.Proofs.YtjhanfiohfakoaaGreatDoor
open Go.RowKit Go.Shelf
attribute [local go_sem] Oper.semAt_some

theorem wpListIn_append_h {F : Fence} {n : Nat} (w : World) {ops : Array Oper} {rest : List Oper} {o : Oper} {a : Act} {Q : Exit → Act → World → Prop}
    (hg : o.guard = none) (s x : Operand) (T E : TypeId) (ho : o.op = Op.call { callee := Callee.builtin Builtin.append, args := #[s, x], argTypes := #[T, T] })
    (z : Value) (size bytes : Nat) (hT : Tryz.prog.underlying T = some (.slice E)) (hinfo : (Tryz.prog.info? E).map (fun i => (i.zero, i.size, i.bytes)) = some (some z, size, bytes)) (hz1 : z.cells.size = size) (hsz : 0 < size) (hby : bytes ≤ 32)
    (base : Nat) (v : Value) (k : Nat) (xs : List Value) (hs : a.eval s = v) (hown : w.ownsRow base E size v k xs) (vx : Value) (m : Nat) (news : List Value) (hx : a.eval x = vx) (hh : Holds w vx m news) (hl : news.length = m * size)
    (h1 : ∀ u ∈ news, u.oneCell' = true) (hk : k + m ≤ 4398046511104) (hbase : base ≤ w.heap.size)
    (h : ∀ v' w', w'.ownsRow base E size v' (k + m) (xs ++ news) → w.grownBy w' v.ownBlock → (v'.ownBlock = v.ownBlock ∨ v'.ownBlock = some w.heap.size) → wpListIn F n Tryz.prog ops Q rest (a.put o.dst v') w') :
    wpListIn F n Tryz.prog ops Q (o :: rest) a w := by
  refine wpListIn_plain hg fun K hK' => ?_
  obtain ⟨i0, hi, hz0, hzs, hz2⟩ := info_parts hinfo
  have hrun : ∃ v' w', (Builtin.append_ #[T, T] o.type #[v, vx]).run Tryz.prog w = .ok v' w' ∧ w'.ownsRow base E size v' (k + m) (xs ++ news) ∧ w.grownBy w' v.ownBlock ∧ (v'.ownBlock = v.ownBlock ∨ v'.ownBlock = some w.heap.size) := by
    rcases hh with ⟨rfl, rfl, rfl⟩ | ⟨ad, c, rfl, _, hc⟩
    · exact ⟨v, w, run_append_owned_none (P := Tryz.prog) (w := w) base T o.type E i0 size hT hi v k xs hown, by simpa using hown, World.grownBy.refl _ _, .inl rfl⟩
    · obtain ⟨v', w', hr, h2, h3, _, h5⟩ := run_append_own_at (P := Tryz.prog) w base T o.type E i0 z size bytes hT hi hz0 hzs hz2 hz1 hsz v k xs hown ad m c news hl hc h1 (by unfold maxLen; omega) (by
        have : (k + m) * bytes ≤ (k + m) * 32 := Nat.mul_le_mul_left _ hby
        omega) hbase
      exact ⟨v', w', hr, h2, h3, h5⟩
  obtain ⟨v', w', hrun, r1, r2, r3⟩ := hrun
  unfold Oper.wpIn
  refine ⟨?_, ?_⟩
  · simp [Oper.about, ho, resolve, Target.leads, Sem.run_pure]
  · rw [Oper.semAt_plain F _ _ (by rw [ho]; intro c hc'; cases hc')]
    simp [execOp, ho, resolve, invoke, builtin, hs, hx, hrun, Result.andThen]
    exact hK' _ _ (h v' w' r1 r2 r3)

theorem new_holds (W : World) (cs : Array Value) (e : TypeId) (k c : Nat) (hkc : k ≤ c) : Holds (W.alloc (.cells cs e)) (.slice (some ⟨W.heap.size, 0, none⟩) k c) k cs.toList := by
  refine .inr ⟨_, _, rfl, hkc, fun j u hj => ?_⟩
  rw [add_none, Lib.cell_of_heap (_root_.Go.heap_alloc_new W _)]
  simpa using hj
/-- a row of the caller's own, in a box of his; the row lies apart from the iterator's boxes -/
structure OwnR (n₀ lo B : Nat) (t e : TypeId) (s : Nat) (v : Value) (k : Nat) (xs : List Value) (W : World) : Prop where
  box : Boxed W B t v
  row : W.ownsRow n₀ e s v k xs
  far : ∀ g, v.ownBlock = some g → g < lo ∨ lo + 3 ≤ g
section
variable {n₀ lo B : Nat} {t e : TypeId} {s : Nat} {v : Value} {k : Nat} {xs : List Value} {W : World}
theorem OwnR.alloc (h : OwnR n₀ lo B t e s v k xs W) (o : Obj) : OwnR n₀ lo B t e s v k xs (W.alloc o) := ⟨h.box.alloc o, h.row.alloc o, h.far⟩
theorem OwnR.appended {w1 : World} {v' : Value} {m : Nat} {ys : List Value} (h : OwnR n₀ lo B t e s v k xs W) (hte : t ≠ e) (htC : t ≠ 53) (heC : e ≠ 53) (hn : n₀ ≤ B) (hB : B < lo) (hsz : lo + 3 ≤ W.heap.size)
    (hown' : w1.ownsRow n₀ e s v' m ys) (hgrow : W.grownBy w1 v.ownBlock) (hp : v'.ownBlock = v.ownBlock ∨ v'.ownBlock = some W.heap.size) :
    Boxed w1 B t v ∧ OwnR n₀ lo B t e s v' m ys (w1.setCell ⟨B, 0, none⟩ v') ∧ KeepsOthers W (w1.setCell ⟨B, 0, none⟩ v') ∧ Kp n₀ lo W (w1.setCell ⟨B, 0, none⟩ v') ∧
      ∀ (j : Nat) (cs : Array Value) (u : TypeId), W.heap[j]? = some (Obj.cells cs u (0, 0)) → u ≠ t → u ≠ e → (w1.setCell ⟨B, 0, none⟩ v').heap[j]? = some (Obj.cells cs u (0, 0)) := by
  have hv1 : Boxed w1 B t v := h.box.kept hgrow (h.box.not_row hte h.row)
  have hset := grownBy_setCell' w1 B v'
  have hrow : ∀ j, v.ownBlock = some j → ∃ cur, W.heap[j]? = some (.cells cur e (0, 0)) ∧ n₀ ≤ j := by
    intro j ej
    rcases h.row.2 with ⟨rfl, _⟩ | ⟨g, cap, cur, rfl, hb, hgb, _⟩
    · simp [Value.ownBlock] at ej
    · obtain rfl : g = j := by simpa [Value.ownBlock] using ej
      exact ⟨cur, hgb, hb⟩
  have hall : ∀ (j : Nat) (cs : Array Value) (u : TypeId), W.heap[j]? = some (Obj.cells cs u (0, 0)) → u ≠ t → u ≠ e → (w1.setCell ⟨B, 0, none⟩ v').heap[j]? = some (Obj.cells cs u (0, 0)) := by
    intro j cs u hj hut hue
    have hlt := (Array.getElem?_eq_some_iff.1 hj).1
    have e1 : w1.heap[j]? = W.heap[j]? := hgrow.block j hlt (fun ej => by
      obtain ⟨cur, hc, _⟩ := hrow j ej.symm
      rw [hj] at hc
      cases hc
      exact hue rfl)
    refine (hset.block j (Nat.lt_of_lt_of_le hlt hgrow.size) (fun ej => ?_)).trans (e1.trans hj)
    cases ej
    have := h.box
    unfold Boxed at this
    rw [hj] at this
    cases this
    exact hut rfl
  refine ⟨hv1, ⟨hv1.set v', hown'.kept hset (.inr (hv1.not_row hte hown').symm), fun g hg => ?_⟩, ?_, ⟨?_, ?_, fun j cs hj => hall j cs _ hj (Ne.symm htC) (Ne.symm heC)⟩, hall⟩
  · rcases hp with hp | hp
    · exact h.far g (hp ▸ hg)
    · rw [hp] at hg
      cases hg
      exact .inr hsz
  · refine (KeepsOthers.of_grownBy hgrow fun j o ej hj => ?_).trans (KeepsOthers.setCell _ _ _)
    obtain ⟨cur, hc, _⟩ := hrow j ej
    rw [hc] at hj
    cases hj
    rfl
  · refine ((Below.refl n₀ W).grown hgrow (by omega) fun j ej => ?_).setCell (p := ⟨B, 0, none⟩) hn v'
    obtain ⟨_, _, h2⟩ := hrow j ej
    exact h2
  · intro j h1 h2
    have e1 : W.heap[j]? = w1.heap[j]? := (hgrow.block j (by omega) (fun ej => by have := h.far j ej.symm; omega)).symm
    rw [e1]
    exact hset.block j (Nat.lt_of_lt_of_le (by omega) hgrow.size) (fun ej => by cases ej; omega)
theorem boxes3 (u : World) (x y z : Value) (W0 : World) (h : ((u.alloc (.cells #[x] 25)).alloc (.cells #[y] 3)).alloc (.cells #[z] 3) = W0) :
    W0.heap.size = u.heap.size + 3 ∧ Boxed W0 u.heap.size 25 x ∧ Boxed W0 (u.heap.size + 1) 3 y ∧ Boxed W0 (u.heap.size + 1 + 1) 3 z ∧ Below u.heap.size u W0 := by
  subst h
  have b1 := Boxed.new (u.alloc (.cells #[x] 25)) 3 y
  have b2 := Boxed.new ((u.alloc (.cells #[x] 25)).alloc (.cells #[y] 3)) 3 z
  rw [World.size_alloc] at b1
  rw [World.size_alloc, World.size_alloc] at b2
  exact ⟨by simp, ((Boxed.new u 25 x).alloc _).alloc _, b1.alloc _, b2, (((Below.refl _ u).alloc (Nat.le_refl _) _).alloc (by simp) _).alloc (by simp; omega) _⟩
theorem ownR_own {β : Type} {A : Nat} {w0 : World} (hn : n₀ ≤ w0.heap.size) (hA : n₀ ≤ A) (kk : β → Nat) (f : β → List Value) : OwnFrom A (fun (x : β) W => (∃ v, OwnR n₀ lo B t e s v (kk x) (f x) W) ∧ Below n₀ w0 W) := by
  refine OwnFrom.and (Own.from ?_ _) (ownFrom_below hn hA)
  have := holdsRow_own (β := β) n₀ B t e s kk f (fun _ v => ∀ g, v.ownBlock = some g → g < lo ∨ lo + 3 ≤ g)
  intro x A B row hs hg hr
  obtain ⟨v, ⟨h1, h2, h3⟩⟩ := hs
  obtain ⟨v', q1, q2, q3⟩ := this x A B row ⟨v, h1, h2, h3⟩ hg hr
  exact ⟨v', q1, q2, q3⟩
end
end Go.Proofs.YtjhanfiohfakoaaGreatDoor

/- What a script keeps: the code's Keep, walked. -/
set_option maxRecDepth 20000
namespace Go.Proofs.YtjhanfiohfakoaaGreatDoor
open Go.RowKit Go.Shelf
attribute [local go_sem] Oper.semAt_some


theorem Keep_no (l : List Ch) (n m : Int) (v : Value) (w : World) (hl : HCh w v l) (hS : ¬ Script l n m) (hn : n ≤ 9223372036854775807) (hm : m ≤ 9223372036854775807) (hlen : l.length ≤ 1048576) :
    Calls Tryz.prog 13 #[v, .int .i64 n, .int .i64 m] w fun e w' => e = .returned (.tuple #[.slice none 0 0, .int .i64 50]) ∧ Below w.heap.size w w' := by
  obtain ⟨ao, ca, rfl⟩ := Holds.form hl
  go_enter Tryz.func13, Tryz.ntmps13
  go_wp2_with fail
  refine (Check_f l n m 50 _ w hl (by omega) hn hm (chk_no hS)).mono ?_
  rintro e w1 ⟨rfl, hB⟩
  go_wp2
  go_ret2
  exact ⟨rfl, hB⟩

/-- make([]T, 0, n) -/
theorem run_make0 {T E : TypeId} {z : Value} {bytes : Nat} (hT : Tryz.prog.underlying T = some (.slice E)) (hinfo : (Tryz.prog.info? E).map (fun i => (i.zero, i.size, i.bytes)) = some (some z, 1, bytes)) (hby : bytes ≤ 16) (N : Nat) (hN : N ≤ 1099511627776) (W : World) :
    (Instr.makeSlice T (.int .i64 0) (.int .i64 (N : Int))).run Tryz.prog W = .ok (.slice (some ⟨W.heap.size, 0, none⟩) 0 N) (W.alloc (.cells (madeCells z.cells N) E)) := by
  obtain ⟨i0, hi, hz0, hzs, hz2⟩ := info_parts hinfo
  have h1 : i0.bytes * N ≤ 16 * 1099511627776 := by rw [hz2]; exact Nat.mul_le_mul hby hN
  have hr := run_make (P := Tryz.prog) W T E i0 z hT hi hz0 .i64 .i64 0 (N : Int) (Int.le_refl _) (by omega) (by
    have : ((i0.bytes * N : Nat) : Int) ≤ 281474976710656 := by omega
    rwa [Int.natCast_mul] at this) (by omega)
  simpa [hzs] using hr
theorem row_made {E : TypeId} {z : Value} (N : Nat) (hN : N ≤ 1099511627776) (W : World) {base : Nat} (hb : base ≤ W.heap.size) : (W.alloc (.cells (madeCells z.cells N) E)).ownsRow base E 1 (.slice (some ⟨W.heap.size, 0, none⟩) 0 N) 0 [] := by
  have := World.ownsRow_made (size := 1) (e := E) W (madeCells z.cells N) N hb (by unfold maxLen; omega) (by rw [size_madeCells, Nat.mul_one])
  exact this

theorem pk_length {n m : Int} (hn : n ≤ 65536) (x : Pie n m) : (pk x.1).length ≤ 131072 := by
  obtain ⟨x, h1, h2, h3, h4, h5, h6, h7, h8, h9, h10⟩ := x
  simp [pk]
  omega
theorem pks_length {n m : Int} (hn : n ≤ 65536) (pre : List (Pie n m)) : (pre.flatMap fun x => pk x.1).length ≤ pre.length * 131072 := by
  induction pre with
  | nil => simp
  | cons x t ih => have := pk_length hn x; simp only [List.flatMap_cons, List.length_append, List.length_cons]; omega

/-- the row of numbers that Keep collects -/
def IOwn (n₀ lo B : Nat) (v : Value) (Z : List Int) (W : World) : Prop := OwnR n₀ lo B 35 3 1 v Z.length (icells Z) W

set_option maxRecDepth 100000 in
set_option maxHeartbeats 4000000 in
theorem Keep_own (l : List Ch) (n m : Int) (v : Value) (w : World) (hl : HCh w v l) (hS : Script l n m) (hn : n ≤ 65536) (hm : m ≤ 9223372036854775807) (hlen : l.length ≤ 1048576) :
    Calls Tryz.prog 13 #[v, .int .i64 n, .int .i64 m] w fun e w' => ∃ v' B, e = .returned (.tuple #[v', .int .i64 0]) ∧ w.heap.size ≤ B ∧ w'.ownsRow B 3 1 v' (keepL l n m).length (icells (keepL l n m)) ∧ Below w.heap.size w w' := by
  obtain ⟨ao, ca, rfl⟩ := Holds.form hl
  have hn0 := hS.1
  have hm0 := hS.2.1
  have HS : Hid (Script l n m) := hS
  clear hS
  obtain ⟨N, rfl⟩ : ∃ N : Nat, n = (N : Int) := ⟨n.toNat, by omega⟩
  have hmk := run_make0 Tryz.underlying35 infoInt (by decide) N (by omega)
  refine (callsIn_wide (n := 3)).1 ?_
  refine callsIn_of_wp_marks Tryz.func13 rfl trivial ?_ rfl
  simp only [Tryz.ntmps13, List.size_toArray, List.length_cons, List.length_nil, Nat.reduceAdd, Nat.reduceSub, Array.replicate_succ, Array.replicate_zero, List.push_toArray, List.append_toArray, List.nil_append, List.cons_append]
  gi_wp2_with (first
    | (refine ⟨trivial, ?_⟩; gi_at_call 25; refine (callsIn_wide.2 (Check_f l N m 0 _ w hl (by omega) (by omega) hm (chk_ok HS.out))).mono ?_; rintro e w1 ⟨rfl, hB1⟩)
    | (refine ⟨trivial, ?_⟩; gi_at_call 26; refine (callsIn_wide.2 (pieces_any _ _ _ _ _ _)).mono ?_; rintro e w' ⟨rfl, rfl⟩))
  obtain ⟨W0, hW0⟩ : ∃ W0, (((((w1.alloc (Obj.cells (madeCells #[Value.int IntKind.i64 0] N) 3)).alloc (Obj.cells #[Value.slice (some { block := w1.heap.size, off := 0 }) 0 N] 35)).alloc (Obj.cells #[Value.slice ao l.length ca] 25)).alloc (Obj.cells #[Value.int IntKind.i64 N] 3)).alloc (Obj.cells #[Value.int IntKind.i64 m] 3)) = W0 := ⟨_, rfl⟩
  obtain ⟨hsz, b0, b1, b2, hB2⟩ := boxes3 _ _ _ _ W0 hW0
  have hsu : ((w1.alloc (Obj.cells (madeCells #[Value.int IntKind.i64 0] N) 3)).alloc (Obj.cells #[Value.slice (some { block := w1.heap.size, off := 0 }) 0 N] 35)).heap.size = w1.heap.size + 1 + 1 := by simp
  have hrow := row_made (E := 3) (z := .int .i64 0) N (by omega) w1 (Nat.le_refl w1.heap.size)
  have bK := Boxed.new (w1.alloc (Obj.cells (madeCells #[Value.int IntKind.i64 0] N) 3)) 35 (Value.slice (some { block := w1.heap.size, off := 0 }) 0 N)
  rw [World.size_alloc] at bK
  rw [hsu] at hsz b0 b1 b2 hB2
  have hBk : ∀ k, k < w1.heap.size + 1 + 1 → W0.heap[k]? = ((w1.alloc (Obj.cells (madeCells #[Value.int IntKind.i64 0] N) 3)).alloc (Obj.cells #[Value.slice (some { block := w1.heap.size, off := 0 }) 0 N] 35)).heap[k]? := hB2.block
  have bK0 : Boxed W0 (w1.heap.size + 1) 35 (Value.slice (some { block := w1.heap.size, off := 0 }) 0 N) := (hBk _ (by omega)).trans bK
  have hrow0 : W0.ownsRow w1.heap.size 3 1 (Value.slice (some { block := w1.heap.size, off := 0 }) 0 N) 0 [] := by
    have hr1 := hrow.alloc (Obj.cells #[Value.slice (some { block := w1.heap.size, off := 0 }) 0 N] 35)
    rw [← hW0]
    exact ((hr1.alloc _).alloc _).alloc _
  have hB0 : Below w1.heap.size w1 W0 := (((Below.refl _ w1).alloc (Nat.le_refl _) _).alloc (by simp) _).trans (hB2.mono (by omega))
  clear hrow bK hBk hB2 hsu
  rw [hW0]
  refine wpIn_rangeFunc_ownH rfl (by omega) (gf := 43) (lb := #[.pointer (some ⟨w1.heap.size + 1 + 1, 0, none⟩), .pointer (some ⟨w1.heap.size + 1 + 1 + 1, 0, none⟩), .pointer (some ⟨w1.heap.size + 1 + 1 + 1 + 1, 0, none⟩)]) rfl trivial (enters_of Tryz.func43 (by kernel_rfl) rfl)
    (pieces_stops 2 (by omega) (w1.heap.size + 1 + 1) w1.heap.size ao ca l N m HS.out (by omega) hm (by omega) W0 (by omega) (by omega) b0 b1 b2 (HCh.keep (HCh.keep hl hB1 (Nat.le_refl _)) hB0 (Nat.le_refl _)) (fun a ha h0 => HCh.lt (HCh.keep hl hB1 (Nat.le_refl _)) a ha h0)) Kp.trans (Kp.putObj (by omega) (by omega)) (Below.refl _ _) (fun _ => rfl)
    (fun pre W => (∃ v, OwnR w1.heap.size (w1.heap.size + 1 + 1) (w1.heap.size + 1) 35 3 1 v (pre.flatMap fun x => pk x.1).length (icells (pre.flatMap fun x => pk x.1)) W) ∧ Below w1.heap.size W0 W)
    (fun _ _ _ => False)
    (ownR_own (by omega) (by omega) _ _)
    (fun _ _ _ _ _ hs _ _ => hs)
    ⟨⟨_, bK0, hrow0, fun g hg => by simp [Value.ownBlock] at hg; omega⟩, Below.refl _ _⟩
    (fun x a' W => ∃ Bx Bc, W.heap[Bx]? = some (Obj.cells #[.int .i64 x.1.1.a, .int .i64 x.1.1.b, .int .i64 x.1.1.n] 59 (0, 0)) ∧ W.heap[Bc]? = some (Obj.cells #[.int .i64 x.1.2.A, .int .i64 x.1.2.AN, .int .i64 x.1.2.B, .int .i64 x.1.2.BN] 53 (0, 0)) ∧ a' = { tmps := #[.slice ao l.length ca, .int .i64 N, .int .i64 m, undef, undef, undef, .slice none 0 0, .int .i64 0, .int .i64 0, .pointer (some ⟨w1.heap.size + 1, 0, none⟩), .pointer (some ⟨Bx, 0, none⟩), .pointer (some ⟨Bc, 0, none⟩), undef, .slice ao l.length ca, .int .i64 N, .int .i64 m, .int .i64 0, .int .i64 0, .bool false, undef, .int .i64 N, .bool (decide (2147483647 < (N : Int))), .int .i64 N, .slice (some ⟨w1.heap.size, 0, none⟩) 0 N, .slice ao l.length ca, .int .i64 N, .int .i64 m, .func (.func 43) #[] #[.pointer (some ⟨w1.heap.size + 1 + 1, 0, none⟩), .pointer (some ⟨w1.heap.size + 1 + 1 + 1, 0, none⟩), .pointer (some ⟨w1.heap.size + 1 + 1 + 1 + 1, 0, none⟩)], rnV x.1.1, chV x.1.2, undef, undef, undef, undef, undef, undef, undef, undef, undef, undef, undef, undef, undef, undef, undef, undef, undef, undef, undef, undef, undef, undef], defers := [] })
    ?hAx ?assign ?body ?done ?stop
  case hAx =>
    rintro x a' _ A B row ⟨Bx, Bc, hx, hxc, rfl⟩ hg hr
    refine ⟨Bx, Bc, (hg.block Bx (Array.getElem?_eq_some_iff.1 hx).1 (fun e => ?_)).trans hx, (hg.block Bc (Array.getElem?_eq_some_iff.1 hxc).1 (fun e => ?_)).trans hxc, rfl⟩
    · obtain ⟨_, o, ho, hc⟩ := hr Bx e.symm
      rw [hx] at ho
      cases ho
      cases hc
    · obtain ⟨_, o, ho, hc⟩ := hr Bc e.symm
      rw [hxc] at ho
      cases ho
      cases hc
  case assign =>
    rintro lp pre x W K ⟨⟨v, hO⟩, hB⟩ hK
    have hs := hB.size
    simp only [rnV, chV]
    gi_wp2
    refine hK _ _ (((KeepsOthers.alloc _ _).trans (KeepsOthers.alloc _ _)).from _) ((Kp.alloc (by omega) (by omega) _).trans (Kp.alloc (by simp; omega) (by simp; omega) _)) ⟨⟨v, (hO.alloc _).alloc _⟩, (hB.alloc (by omega) _).alloc (by simp; omega) _⟩ ⟨W.heap.size, W.heap.size + 1, (Below.heap_alloc _ _ _ (by simp)).trans (_root_.Go.heap_alloc_new W _), ?_, rfl⟩
    have := _root_.Go.heap_alloc_new (W.alloc (Obj.cells #[.int .i64 x.1.1.a, .int .i64 x.1.1.b, .int .i64 x.1.1.n] 59)) (Obj.cells #[.int .i64 x.1.2.A, .int .i64 x.1.2.AN, .int .i64 x.1.2.B, .int .i64 x.1.2.BN] 53)
    rw [World.size_alloc] at this
    exact this
  case body =>
    rintro lp pre x a' W hlp ⟨r, hr⟩ ⟨⟨v, hO⟩, hB⟩ ⟨Bx, Bc, hx, hxc, rfl⟩ hlt
    have hs := hB.size
    have hbnd := pks_length hn pre
    obtain ⟨q1, q2, q3, q4, q5, q6, q7, q8, q9, q10⟩ := x.2
    have HZ : Hid ((pre ++ [x]).flatMap (fun x => pk x.1) = (pre.flatMap fun x => pk x.1) ++ ((List.range x.1.1.n.toNat).map (fun (i : Nat) => x.1.1.b + (i : Int)) ++ List.replicate x.1.2.AN.toNat (-1))) := (by show _ = _; simp [pk])
    obtain ⟨X, hX⟩ : ∃ X, (pre.flatMap fun x => pk x.1) = X := ⟨_, rfl⟩
    rw [hX] at hO hbnd HZ
    obtain ⟨cnt, hcnt⟩ : ∃ cnt : Nat, x.1.1.n = (cnt : Int) := ⟨x.1.1.n.toNat, by omega⟩
    obtain ⟨can, hcan⟩ : ∃ can : Nat, x.1.2.AN = (can : Int) := ⟨x.1.2.AN.toNat, by omega⟩
    rw [hcnt] at hx
    rw [hcan] at hxc
    have hc := hO.box.cell
    have x2 : W.cell? ⟨Bx, 2, none⟩ = some (.int .i64 cnt) := by rw [Lib.cell_of_heap hx]; rfl
    have hm2 : x.1.1.b + x.1.1.n ≤ 9223372036854775807 := by omega
    gi_wp2
    gi_loopw [32] (fun iv wr => ∃ (j : Nat) (v2 : Value), j ≤ cnt ∧ iv = .int .i64 j ∧ IOwn w1.heap.size (w1.heap.size + 1 + 1) (w1.heap.size + 1) v2 (X ++ (List.range j).map (fun (i : Nat) => x.1.1.b + (i : Int))) wr ∧ Kp w1.heap.size (w1.heap.size + 1 + 1) W wr ∧ KeepsOthers W wr ∧ wr.heap[Bx]? = some (Obj.cells #[.int .i64 x.1.1.a, .int .i64 x.1.1.b, .int .i64 cnt] 59 (0, 0))) (fun iv _ => cnt - (intOf iv).toNat)
    case atStart => exact ⟨0, v, Nat.zero_le _, rfl, by simpa [IOwn] using hO, Kp.refl _, KeepsOthers.refl _, hx⟩
    case round =>
      obtain ⟨j, v2, hj, rfl, hO2, hkp, hko, hx'⟩ := hrel
      have hs2 := hkp.low.size
      unfold IOwn at hO2
      have hc2 := hO2.box.cell
      by_cases hjl : j < cnt
      · have x1 : wr.cell? ⟨Bx, 1, none⟩ = some (.int .i64 x.1.1.b) := by rw [Lib.cell_of_heap hx']; rfl
        have hln : (X ++ (List.range j).map (fun (i : Nat) => x.1.1.b + (i : Int))).length = X.length + j := by simp
        rw [hln] at hO2
        gi_wp2_with (gi_at_builtin; refine wpListIn_append_h _ rfl (.tmp 35) (.tmp 40) 35 3 rfl (.int .i64 0) 1 8 Tryz.underlying35 infoInt rfl (by decide) (by decide) w1.heap.size v2 _ _ rfl (hO2.row.alloc _) _ 1 (icells [x.1.1.b + (j : Int)]) rfl (new_holds _ _ _ _ _ (by decide)) rfl (icells_one _) (by omega) (by simp; omega) ?_; intro v' u1 hown' hgrow hp; obtain ⟨g', cap', rfl⟩ := ownsRow_succ hown'; obtain ⟨hv1, hO3, hk2, hp2, hal⟩ := (OwnR.alloc hO2 _).appended (by decide) (by decide) (by decide) (by omega) (by omega) (by simp; omega) hown' hgrow hp; have hc1 := hv1.cell; have hf1 := hv1.frozen)
        have hkp2 := hkp.trans ((Kp.alloc (W := wr) (n₀ := w1.heap.size) (lo := w1.heap.size + 1 + 1) (by omega) (by omega) _).trans hp2)
        refine ⟨⟨j + 1, .slice (some ⟨g', 0, none⟩) (X.length + j + 1) cap', by omega, by go_num, ?_, hkp2, hko.trans ((KeepsOthers.alloc wr _).trans hk2), hal _ _ _ ((Below.heap_alloc wr _ _ (Array.getElem?_eq_some_iff.1 hx').1).trans hx') (by decide) (by decide)⟩, by simp [intOf]; omega⟩
        rw [← icells_append] at hO3
        unfold IOwn
        rw [List.range_succ, List.map_append, ← List.append_assoc]
        simpa [Nat.add_assoc] using hO3
      · obtain rfl : j = cnt := by omega
        have hkc : wr.heap[Bc]? = _ := hkp.chg _ _ hxc
        have xc1 : wr.cell? ⟨Bc, 1, none⟩ = some (.int .i64 can) := by rw [Lib.cell_of_heap hkc]; rfl
        obtain ⟨Y, hY⟩ : ∃ Y, X ++ (List.range j).map (fun (i : Nat) => x.1.1.b + (i : Int)) = Y := ⟨_, rfl⟩
        have hYl : Y.length ≤ X.length + j := by rw [← hY]; simp
        rw [hY] at hO2
        have HZ2 : Hid ((pre ++ [x]).flatMap (fun x => pk x.1) = Y ++ List.replicate can (-1)) := (by
          have h := HZ.out
          rw [hcnt, hcan] at h
          simp only [Int.toNat_natCast] at h
          show _ = _
          rw [h, ← hY, List.append_assoc])
        clear HZ hY
        gi_wp2
        gi_loopw [45] (fun iv wr => ∃ (i : Nat) (v2 : Value), i ≤ can ∧ iv = .int .i64 i ∧ IOwn w1.heap.size (w1.heap.size + 1 + 1) (w1.heap.size + 1) v2 (Y ++ List.replicate i (-1)) wr ∧ Kp w1.heap.size (w1.heap.size + 1 + 1) W wr ∧ KeepsOthers W wr) (fun iv _ => can - (intOf iv).toNat)
        case atStart => exact ⟨0, v2, Nat.zero_le _, rfl, by simpa [IOwn] using hO2, hkp, hko⟩
        case round =>
          clear hO2 hc2 hs2 xc1 hkc
          obtain ⟨i, v2, hi, rfl, hO2, hkp, hko⟩ := hrel
          have hs2 := hkp.low.size
          unfold IOwn at hO2
          have hc2 := hO2.box.cell
          by_cases hil : i < can
          · have hln : (Y ++ List.replicate i (-1)).length = Y.length + i := by simp
            rw [hln] at hO2
            gi_wp2_with (gi_at_builtin; refine wpListIn_append_h _ rfl (.tmp 47) (.tmp 48) 35 3 rfl (.int .i64 0) 1 8 Tryz.underlying35 infoInt rfl (by decide) (by decide) w1.heap.size v2 _ _ rfl (hO2.row.alloc _) _ 1 (icells [-1]) rfl (new_holds _ _ _ _ _ (by decide)) rfl (icells_one _) (by omega) (by simp; omega) ?_; intro v' u1 hown' hgrow hp; obtain ⟨g', cap', rfl⟩ := ownsRow_succ hown'; obtain ⟨hv1, hO3, hk2, hp2, hal⟩ := (OwnR.alloc hO2 _).appended (by decide) (by decide) (by decide) (by omega) (by omega) (by simp; omega) hown' hgrow hp; have hc1 := hv1.cell; have hf1 := hv1.frozen)
            have hkp2 := hkp.trans ((Kp.alloc (W := wr) (n₀ := w1.heap.size) (lo := w1.heap.size + 1 + 1) (by omega) (by omega) _).trans hp2)
            refine ⟨⟨i + 1, .slice (some ⟨g', 0, none⟩) (Y.length + i + 1) cap', by omega, by go_num, ?_, hkp2, hko.trans ((KeepsOthers.alloc wr _).trans hk2)⟩, by simp [intOf]; omega⟩
            rw [← icells_append] at hO3
            unfold IOwn
            rw [List.replicate_succ', ← List.append_assoc]
            simpa [Nat.add_assoc] using hO3
          · obtain rfl : i = can := by omega
            gi_wp2
            exact ⟨hko.from _, hkp, ⟨v2, by rw [HZ2.out]; exact hO2⟩, hB.trans hkp.low⟩
  case done =>
    rintro D ys W hD hys ⟨⟨v, hO⟩, hB⟩ hK
    have hc := hO.box.cell
    gi_wp2
    refine ⟨by simp, .inl ⟨_, _, rfl, run_takeDeferred hK, ?_⟩⟩
    have hfm : (ys.flatMap fun x => pk x.1) = keepL l N m := by
      unfold keepL
      rw [← hys, List.flatMap_map]
    have hrw := ownsRow_putObj hO.row (Obj.deferred none) hK rfl
    rw [hfm] at hrw
    refine ⟨_, results_tmp2 rfl _ _ _, v, w1.heap.size, rfl, hB1.size, hrw, hB1.trans (Below.mono ((hB0.trans hB).trans (belowK_b (w := w1) (Nat.le_refl _) W D _ _ (by omega) hK rfl rfl)) hB1.size)⟩
  case stop =>
    rintro D c pre W _ _ h _
    exact h.elim
theorem Keep_ok (l : List Ch) (n m : Int) (v : Value) (w : World) (hl : HCh w v l) (hS : Script l n m) (hn : n ≤ 65536) (hm : m ≤ 9223372036854775807) (hlen : l.length ≤ 1048576) :
    Calls Tryz.prog 13 #[v, .int .i64 n, .int .i64 m] w fun e w' => ∃ v', e = .returned (.tuple #[v', .int .i64 0]) ∧ HI w' v' (keepL l n m) ∧ Below w.heap.size w w' := by
  refine (Keep_own l n m v w hl hS hn hm hlen).mono ?_
  rintro e w' ⟨v', B, rfl, _, ho, hb⟩
  exact ⟨v', rfl, holds_of ho, hb⟩
end Go.Proofs.YtjhanfiohfakoaaGreatDoor

/- Laws for the plain walk: append onto an owned row of elements of whatever width, as a step of the walk and of a region that draws; Same of numbers, of changes. -/
set_option maxRecDepth 20000
namespace Go.Proofs.YtjhanfiohfakoaaGreatDoor
open Go.RowKit

theorem run_append_h (w : World) (T E ty : TypeId) (z : Value) (size bytes : Nat) (hT : Tryz.prog.underlying T = some (.slice E)) (hinfo : (Tryz.prog.info? E).map (fun i => (i.zero, i.size, i.bytes)) = some (some z, size, bytes)) (hz1 : z.cells.size = size) (hsz : 0 < size) (hby : bytes ≤ 32)
    (base : Nat) (v : Value) (k : Nat) (xs : List Value) (hown : w.ownsRow base E size v k xs) (vx : Value) (m : Nat) (news : List Value) (hh : Holds w vx m news) (hl : news.length = m * size)
    (h1 : ∀ u ∈ news, u.oneCell' = true) (hk : k + m ≤ 4398046511104) (hbase : base ≤ w.heap.size) :
    ∃ v' w', (Builtin.append_ #[T, T] ty #[v, vx]).run Tryz.prog w = .ok v' w' ∧ w'.ownsRow base E size v' (k + m) (xs ++ news) ∧ w.grownBy w' v.ownBlock ∧ (v'.ownBlock = v.ownBlock ∨ v'.ownBlock = some w.heap.size) := by
  obtain ⟨i0, hi0, hz0, hzs, hz2⟩ := info_parts hinfo
  rcases hh with ⟨rfl, rfl, rfl⟩ | ⟨ad, c, rfl, _, hc⟩
  · exact ⟨v, w, run_append_owned_none (P := Tryz.prog) (w := w) base T ty E i0 size hT hi0 v k xs hown, by simpa using hown, World.grownBy.refl _ _, .inl rfl⟩
  · obtain ⟨v', w', hr, h2, h3, _, h5⟩ := run_append_own_at (P := Tryz.prog) w base T ty E i0 z size bytes hT hi0 hz0 hzs hz2 hz1 hsz v k xs hown ad m c news hl hc h1 (by unfold maxLen; omega) (by
      have : (k + m) * bytes ≤ (k + m) * 32 := Nat.mul_le_mul_left _ hby
      omega) hbase
    exact ⟨v', w', hr, h2, h3, h5⟩

theorem wpList_append_h {ops : Array Oper} {rest : List Oper} {o : Oper} {a : Act} {Q : Exit → Act → World → Prop} (w : World) (hw : Region.wanted o (yielded ops a.tmps) = true) (s x : Operand) (T E : TypeId) (z : Value) (size bytes : Nat)
    (ho : o.op = .call { callee := .builtin .append, args := #[s, x], argTypes := #[T, T] }) (hT : Tryz.prog.underlying T = some (.slice E)) (hinfo : (Tryz.prog.info? E).map (fun i => (i.zero, i.size, i.bytes)) = some (some z, size, bytes)) (hz1 : z.cells.size = size) (hsz : 0 < size) (hby : bytes ≤ 32)
    (base : Nat) (v : Value) (k : Nat) (xs : List Value) (hs : a.eval s = v) (hown : w.ownsRow base E size v k xs) (vx : Value) (m : Nat) (news : List Value) (hx : a.eval x = vx) (hh : Holds w vx m news) (hl : news.length = m * size)
    (h1 : ∀ u ∈ news, u.oneCell' = true) (hk : k + m ≤ 4398046511104) (hbase : base ≤ w.heap.size)
    (h : ∀ v' w', w'.ownsRow base E size v' (k + m) (xs ++ news) → w.grownBy w' v.ownBlock → wpList Tryz.prog ops Q rest (a.put o.dst v') w') : wpList Tryz.prog ops Q (o :: rest) a w := by
  refine wpList_step fun K hK => ?_
  rw [if_pos hw]
  obtain ⟨v', w', hr, h2, h3, _⟩ := run_append_h w T E o.type z size bytes hT hinfo hz1 hsz hby base v k xs hown vx m news hh hl h1 hk hbase
  unfold Oper.wp
  simp [execOp, ho, resolve, invoke, builtin, hs, hx, hr, Result.andThen]
  exact hK _ _ (h v' w' h2 h3)

theorem step_append_h {ops : Array Oper} {o : Oper} {a : Act} {K : Act → World → Prop} {Q : Exit → Act → World → Prop} {X : Prop} (w : World) (hgd : o.guard = none) (s x : Operand) (T E : TypeId) (z : Value) (size bytes : Nat)
    (ho : o.op = .call { callee := .builtin .append, args := #[s, x], argTypes := #[T, T] }) (hT : Tryz.prog.underlying T = some (.slice E)) (hinfo : (Tryz.prog.info? E).map (fun i => (i.zero, i.size, i.bytes)) = some (some z, size, bytes)) (hz1 : z.cells.size = size) (hsz : 0 < size) (hby : bytes ≤ 32)
    (base : Nat) (v : Value) (k : Nat) (xs : List Value) (hs : a.eval s = v) (hown : w.ownsRow base E size v k xs) (vx : Value) (m : Nat) (news : List Value) (hx : a.eval x = vx) (hh : Holds w vx m news) (hl : news.length = m * size)
    (h1 : ∀ u ∈ news, u.oneCell' = true) (hk : k + m ≤ 4398046511104) (hbase : base ≤ w.heap.size)
    (h : ∀ v' w', w'.ownsRow base E size v' (k + m) (xs ++ news) → w.grownBy w' v.ownBlock → K (a.put o.dst v') w') :
    if Region.wanted o (yielded ops a.tmps) = true then Oper.wp Tryz.prog o a w K Q else X := by
  have hw : Region.wanted o (yielded ops a.tmps) = true := by simp [Region.wanted, hgd]
  rw [if_pos hw]
  obtain ⟨v', w', hr, h2, h3, _⟩ := run_append_h w T E o.type z size bytes hT hinfo hz1 hsz hby base v k xs hown vx m news hh hl h1 hk hbase
  unfold Oper.wp
  simp [execOp, ho, resolve, invoke, builtin, hs, hx, hr, Result.andThen]
  exact h v' w' h2 h3

/-- a new empty row -/
theorem nil_row_new {e : TypeId} {s : Nat} (W : World) (N g : Nat) (hg : W.heap.size = g) (hB : N ≤ g) : (W.alloc (.cells #[] e)).ownsRow N e s (.slice (some ⟨g, 0, none⟩) 0 0) 0 [] := by
  subst hg
  exact ⟨by simp, .inr ⟨_, 0, #[], rfl, hB, _root_.Go.heap_alloc_new W _, Nat.le_refl _, by decide, by simp, by simp⟩⟩
theorem owns_keep {w w' : World} {base : Nat} {e : TypeId} {s : Nat} {v : Value} {n : Nat} {xs : List Value} (h : w.ownsRow base e s v n xs) (hk : Below w.heap.size w w') : w'.ownsRow base e s v n xs := by
  refine ⟨h.1, ?_⟩
  rcases h.2 with h1 | ⟨g, cap, cur, q1, q2, q3, q4⟩
  · exact .inl h1
  · exact .inr ⟨g, cap, cur, q1, q2, (hk.block g (Array.getElem?_eq_some_iff.1 q3).1).trans q3, q4⟩
theorem owns_ge {w : World} {base : Nat} {e : TypeId} {s : Nat} {v : Value} {n : Nat} {xs : List Value} (h : w.ownsRow base e s v n xs) {j : Nat} (hj : v.ownBlock = some j) : base ≤ j := by
  rcases h.2 with ⟨rfl, _⟩ | ⟨g, cap, cur, rfl, hb, _⟩
  · cases hj
  · simp [Value.ownBlock] at hj; omega

/-- all ahead of a call as it was -/
def Low (W w : World) : Prop := Below W.heap.size W w
theorem low_drew (W w : World) : Low W w.drew ↔ Low W w := ⟨fun h => ⟨h.os, h.tape, h.output, h.size, h.block⟩, fun h => Below.dN h 1⟩
theorem low_alloc {W w : World} (o : Obj) (h : Low W w) : Low W (w.alloc o) := Below.alloc h (Below.size h) o
theorem Low.ch {W w : World} (h : Low W w) {b off n c : Nat} {l : List Ch} (hl : HCh W (.slice (some ⟨b, off, none⟩) n c) l) (k : Nat) (hk : k < l.length) {x : Ch} (hx : l[k] = x) : w.cell? ⟨b, off + k * 4, none⟩ = some (.int .i64 x.A) ∧ w.cell? ⟨b, off + k * 4 + 1, none⟩ = some (.int .i64 x.AN) ∧ w.cell? ⟨b, off + k * 4 + 2, none⟩ = some (.int .i64 x.B) ∧ w.cell? ⟨b, off + k * 4 + 3, none⟩ = some (.int .i64 x.BN) := by
  obtain ⟨b', off', e, _, hc⟩ := HCh.at (HCh.keep hl h (Nat.le_refl _)) (by omega)
  cases e
  rw [← hx]
  exact hc k hk
/-- a row of one's own, and all ahead of a call as it was -/
structure St (W : World) (e : TypeId) (s : Nat) (v : Value) (k : Nat) (xs : List Value) (w : World) : Prop where
  own : w.ownsRow W.heap.size e s v k xs
  low : Below W.heap.size W w
theorem st_drew (W : World) (e : TypeId) (s : Nat) (v : Value) (k : Nat) (xs : List Value) (w : World) : St W e s v k xs w.drew ↔ St W e s v k xs w :=
  ⟨fun h => ⟨h.own, ⟨h.low.os, h.low.tape, h.low.output, h.low.size, h.low.block⟩⟩, fun h => ⟨h.own, Below.dN h.low 1⟩⟩
theorem st_alloc {W : World} {e : TypeId} {s : Nat} {v : Value} {k : Nat} {xs : List Value} {w : World} (o : Obj) (h : St W e s v k xs w) : St W e s v k xs (w.alloc o) := ⟨h.own.alloc o, h.low.alloc h.low.size o⟩
theorem St.grown {W : World} {e : TypeId} {s : Nat} {v v' : Value} {k k' : Nat} {xs xs' : List Value} {w w' : World} (h : St W e s v k xs w) (ho : w'.ownsRow W.heap.size e s v' k' xs') (hg : w.grownBy w' v.ownBlock) : St W e s v' k' xs' w' :=
  ⟨ho, h.low.grown hg h.low.size (fun _ hj => owns_ge h.own hj)⟩

set_option maxHeartbeats 1000000 in
theorem SameC_any (va vb : Value) (l : List Ch) (w : World) (hlen : l.length ≤ 1099511627776) (ha : HCh w va l) (hb : HCh w vb l) :
    Calls Tryz.prog 8 #[va, vb] w fun e w' => e = .returned (.bool true) ∧ Below w.heap.size w w' := by
  obtain ⟨ao, ca, rfl⟩ := Holds.form ha
  obtain ⟨bo, cb, rfl⟩ := Holds.form hb
  go_enter Tryz.func8, Tryz.ntmps8
  go_wp2
  go_loopw [5] (fun i wr => ∃ k m : Nat, k ≤ l.length ∧ i = .int .i64 k ∧ wr = w.drewN m) (fun i _ => l.length - (intOf i).toNat)
  case atStart => exact ⟨0, 0, Nat.zero_le _, rfl, rfl⟩
  case round =>
    obtain ⟨k, m, hk, rfl, rfl⟩ := hrel
    by_cases hlt : k < l.length
    · obtain ⟨b1, o1, rfl, _, hc1⟩ := HCh.at ha (by omega)
      obtain ⟨b2, o2, rfl, _, hc2⟩ := HCh.at hb (by omega)
      obtain ⟨c0, c1, c2, c3⟩ := hc1 k hlt
      obtain ⟨d0, d1, d2, d3⟩ := hc2 k hlt
      obtain ⟨c, hcd⟩ : ∃ c, l[k] = c := ⟨_, rfl⟩
      rw [hcd] at c0 c1 c2 c3 d0 d1 d2 d3
      obtain ⟨A, AN, B, BN⟩ := c
      dsimp only at c0 c1 c2 c3 d0 d1 d2 d3
      clear hc1 hc2 hcd
      have i1 : 0 ≤ (k : Int) := by omega
      have i2 : (k : Int) < (l.length : Int) := by omega
      go_wp2_with fail
      go_quiet (fail)
      go_wp2
      go_roundw
      case rel => exact ⟨k + 1, _, by omega, by go_num, rfl⟩
      case measure => simp [intOf]; omega
    · go_wp2
      go_ret
      exact ⟨rfl, Below.dN (Below.refl _ w) _⟩
end Go.Proofs.YtjhanfiohfakoaaGreatDoor

/- Scripts are made: between, Make, walked. -/
set_option maxRecDepth 20000
namespace Go.Proofs.YtjhanfiohfakoaaGreatDoor
open Go.RowKit

theorem ret_tuple {a b : Value} (h : a = b) : Ending.returned a = .returned b := by rw [h]
/-- numbers of a run that are small enough for sums -/
def sm (r : Rn) : Prop := 0 ≤ r.a ∧ r.a ≤ 4294967296 ∧ 0 ≤ r.b ∧ r.b ≤ 4294967296 ∧ 0 ≤ r.n ∧ r.n ≤ 4294967296
theorem owns_apart {w w' : World} {base base' : Nat} {e e' : TypeId} {s s' : Nat} {v v' : Value} {n n' : Nat} {xs xs' : List Value} (h : w.ownsRow base e s v n xs) (h' : w.ownsRow base' e' s' v' n' xs') (hne : e ≠ e') (h0 : 0 < n) (hg : w.grownBy w' v'.ownBlock) : w'.ownsRow base e s v n xs := by
  refine h.kept hg (.inr ?_)
  rcases h.2 with ⟨_, h1⟩ | ⟨g, cap, cur, rfl, _, hc, _⟩
  · omega
  · rcases h'.2 with ⟨rfl, _⟩ | ⟨g', cap', cur', rfl, _, hc', _⟩
    · simp [Value.ownBlock]
    · intro e1
      simp only [Value.ownBlock, Option.some.injEq] at e1
      subst e1
      rw [hc] at hc'
      cases hc'
      exact hne rfl

theorem new_holds_at (W : World) (g : Nat) (hg : W.heap.size = g) (cs : Array Value) (e : TypeId) (k c : Nat) (hkc : k ≤ c) : Holds (W.alloc (.cells cs e)) (.slice (some ⟨g, 0, none⟩) k c) k cs.toList := by
  subst hg
  exact new_holds W cs e k c hkc

set_option maxRecDepth 10000 in
set_option maxHeartbeats 4000000 in
theorem between_f (rs RS : List Rn) (L : List Ch) (n m : Int) (v : Value) (base : Nat) (w : World) (hbase : base ≤ w.heap.size) (hv : w.ownsRow base 59 3 v rs.length (rncells rs)) (hlen : rs.length ≤ 1099511627776) (hRS : Hid (rs ++ [⟨n, m, 0⟩] = RS)) (hL : Hid (betw 0 0 RS = L)) (hs : Hid (∀ r ∈ RS, sm r)) (hN : Hid (∀ c ∈ L, numB c = true)) :
    Calls Tryz.prog 92 #[v, .int .i64 n, .int .i64 m] w fun e w' => ∃ v', e = .returned (.tuple #[v', .int .i64 0]) ∧ HCh w' v' L ∧ Below base w w' := by
  obtain ⟨ao, ca, rfl⟩ := (holds_of hv).form
  go_enter Tryz.func92, Tryz.ntmps92
  go_wp2_with (at_builtin; refine wpList_append_h _ (by kernel_rfl) (.tmp 15) (.tmp 19) 137 59 (.agg #[.int .i64 0, .int .i64 0, .int .i64 0]) 3 24 rfl Tryz.underlying137 infoRn rfl (by decide) (by decide) base _ _ _ rfl (hv.alloc _) _ 1 (rncells [⟨n, m, 0⟩]) rfl (new_holds _ _ _ _ _ (by decide)) rfl (rncells_one _) (by omega) (by simp; omega) ?_)
  intro v1 w1 hown1 hgrow1
  have hB1 : Below base w w1 := ((Below.refl base w).alloc hbase _).grown hgrow1 (by simp; omega) (fun _ hj => owns_ge hv hj)
  have hsz1 := hB1.size
  rw [← rncells_append, hRS.out] at hown1
  have hRl : RS.length = rs.length + 1 := by rw [← hRS.out]; simp
  obtain ⟨N, hNe⟩ : ∃ N, rs.length + 1 = N := ⟨_, rfl⟩
  rw [hNe] at hown1 hRl
  have hN0 : 0 < N := by omega
  have hNl : N ≤ 1099511627777 := by omega
  obtain ⟨g1, cap1, rfl⟩ : ∃ g cap, v1 = .slice (some ⟨g, 0, none⟩) N cap := by rw [← hNe] at hown1 ⊢; exact ownsRow_succ hown1
  clear hgrow1 hNe hv
  go_wp2
  go_loopw [8, 9, 10, 22] (fun lv av bv iv wr => ∃ (k : Nat) (a b : Int) (X : List Ch), k ≤ N ∧ (∃ oo oc, lv = .slice oo X.length oc) ∧ av = .int .i64 a ∧ bv = .int .i64 b ∧ iv = .int .i64 k ∧ 0 ≤ a ∧ a ≤ 8589934592 ∧ 0 ≤ b ∧ b ≤ 8589934592 ∧ Below base w wr ∧ wr.ownsRow base 53 4 lv X.length (chcells X) ∧ X.length ≤ k ∧ wr.ownsRow base 59 3 (.slice (some ⟨g1, 0, none⟩) N cap1) N (rncells RS) ∧ Hid (X ++ betw a b (RS.drop k) = L)) (fun _ _ _ iv _ => N - (intOf iv).toNat)
  case atStart => exact ⟨0, 0, 0, [], Nat.zero_le _, ⟨_, _, rfl⟩, rfl, rfl, rfl, by omega, by omega, by omega, by omega, hB1, World.ownsRow_nil _ _ _ _, Nat.zero_le _, hown1, hL⟩
  case round =>
    obtain ⟨k, a, b, X, hk, ⟨oo, oc, rfl⟩, rfl, rfl, rfl, ha0, ha1, hb0, hb1, hB, hO, hX, hV, hR⟩ := hrel
    have hsz := hB.size
    by_cases hlt : k < N
    · have hV' : HRn wr (.slice (some ⟨g1, 0, none⟩) N cap1) RS := by have := holds_of hV; rw [← hRl] at this ⊢; exact this
      obtain ⟨bk, off, hbe, hbk, hc⟩ := HRn.at hV' (by omega)
      cases hbe
      obtain ⟨c0, c1, c2⟩ := hc k (by omega)
      have hR' := hR.out
      rw [List.drop_eq_getElem_cons (by omega)] at hR'
      obtain ⟨r, hrd⟩ : ∃ r, RS[k] = r := ⟨_, rfl⟩
      have hsm := hs.out r (by rw [← hrd]; exact List.getElem_mem _)
      rw [hrd] at hR' c0 c1 c2
      clear hc hrd hR hV'
      have HR : Hid (X ++ betw a b (r :: RS.drop (k + 1)) = L) := hR'
      clear hR'
      obtain ⟨ra, rb, rn⟩ := r
      obtain ⟨s1, s2, s3, s4, s5, s6⟩ := hsm
      dsimp only at c0 c1 c2 s1 s2 s3 s4 s5 s6
      rw [Nat.zero_add] at c0 c1 c2
      have i1 : 0 ≤ (k : Int) := by omega
      have i2 : (k : Int) < (N : Int) := by omega
      by_cases hea : a < ra
      · go_wp2_with (at_builtin; refine wpList_append_h _ (by kernel_rfl) (.tmp 36) (.tmp 48) 25 53 (.agg #[.int .i64 0, .int .i64 0, .int .i64 0, .int .i64 0]) 4 32 rfl Tryz.underlying25 infoCh rfl (by decide) (by decide) base _ _ _ rfl ((hO.alloc _).alloc _) _ 1 (chcells [⟨a, ra - a, b, rb - b⟩]) rfl (new_holds_at _ _ (by simp) _ _ _ _ (by decide)) rfl (chcells_one _) (by omega) (by simp; omega) ?_)
        intro v2 w2 hown2 hgrow2
        have hB2 : Below base w w2 := ((hB.alloc (by omega) _).alloc (by simp; omega) _).grown hgrow2 (by simp; omega) (fun _ hj => owns_ge hO hj)
        have hsz2 := hB2.size
        have hV2 := owns_apart ((hV.alloc _).alloc _) ((hO.alloc _).alloc _) (by decide) hN0 hgrow2
        have hbx : w2.heap[wr.heap.size]? = some (Obj.cells #[Value.int IntKind.i64 ra, Value.int IntKind.i64 rb, Value.int IntKind.i64 rn] 59 (0, 0)) := by
          rw [hgrow2.block wr.heap.size (by simp; omega) (fun e => ?_)]
          · exact (Below.heap_alloc _ _ _ (by simp)).trans (_root_.Go.heap_alloc_new wr _)
          · have h1 := hO.2
            rcases h1 with ⟨h1, _⟩ | ⟨g, cap, cur, h1, _, h3, _⟩
            · rw [h1] at e; simp [Value.ownBlock] at e
            · rw [h1] at e
              simp only [Value.ownBlock, Option.some.injEq] at e
              have := (Array.getElem?_eq_some_iff.1 h3).1
              omega
        have d0 : w2.cell? ⟨wr.heap.size, 0, none⟩ = some (.int .i64 ra) := by rw [Lib.cell_of_heap hbx]; rfl
        have d1 : w2.cell? ⟨wr.heap.size, 1, none⟩ = some (.int .i64 rb) := by rw [Lib.cell_of_heap hbx]; rfl
        have d2 : w2.cell? ⟨wr.heap.size, 2, none⟩ = some (.int .i64 rn) := by rw [Lib.cell_of_heap hbx]; rfl
        rw [← chcells_append] at hown2
        obtain ⟨oo2, oc2, rfl⟩ := (holds_of hown2).form
        clear hbx hgrow2 c0 c1 c2
        go_wp2_with fail
        go_quiet (fail)
        go_wp2
        go_roundw
        case rel => exact ⟨k + 1, ra + rn, rb + rn, X ++ [⟨a, ra - a, b, rb - b⟩], by omega, ⟨_, _, by rw [List.length_append]; rfl⟩, by go_num, by go_num, by go_num, by omega, by omega, by omega, by omega, Below.dN hB2 _, by rw [List.length_append]; exact hown2, by simp; omega, hV2, (by
            have h := HR.out
            rw [betw] at h
            rw [if_pos (by dsimp only; omega)] at h
            show _ = _
            rw [← h]
            simp)⟩
        case measure => simp [intOf]; omega
      by_cases heb : b < rb
      · go_wp2_with (at_builtin; refine wpList_append_h _ (by kernel_rfl) (.tmp 36) (.tmp 48) 25 53 (.agg #[.int .i64 0, .int .i64 0, .int .i64 0, .int .i64 0]) 4 32 rfl Tryz.underlying25 infoCh rfl (by decide) (by decide) base _ _ _ rfl ((hO.alloc _).alloc _) _ 1 (chcells [⟨a, ra - a, b, rb - b⟩]) rfl (new_holds_at _ _ (by simp) _ _ _ _ (by decide)) rfl (chcells_one _) (by omega) (by simp; omega) ?_)
        intro v2 w2 hown2 hgrow2
        have hB2 : Below base w w2 := ((hB.alloc (by omega) _).alloc (by simp; omega) _).grown hgrow2 (by simp; omega) (fun _ hj => owns_ge hO hj)
        have hsz2 := hB2.size
        have hV2 := owns_apart ((hV.alloc _).alloc _) ((hO.alloc _).alloc _) (by decide) hN0 hgrow2
        have hbx : w2.heap[wr.heap.size]? = some (Obj.cells #[Value.int IntKind.i64 ra, Value.int IntKind.i64 rb, Value.int IntKind.i64 rn] 59 (0, 0)) := by
          rw [hgrow2.block wr.heap.size (by simp; omega) (fun e => ?_)]
          · exact (Below.heap_alloc _ _ _ (by simp)).trans (_root_.Go.heap_alloc_new wr _)
          · have h1 := hO.2
            rcases h1 with ⟨h1, _⟩ | ⟨g, cap, cur, h1, _, h3, _⟩
            · rw [h1] at e; simp [Value.ownBlock] at e
            · rw [h1] at e
              simp only [Value.ownBlock, Option.some.injEq] at e
              have := (Array.getElem?_eq_some_iff.1 h3).1
              omega
        have d0 : w2.cell? ⟨wr.heap.size, 0, none⟩ = some (.int .i64 ra) := by rw [Lib.cell_of_heap hbx]; rfl
        have d1 : w2.cell? ⟨wr.heap.size, 1, none⟩ = some (.int .i64 rb) := by rw [Lib.cell_of_heap hbx]; rfl
        have d2 : w2.cell? ⟨wr.heap.size, 2, none⟩ = some (.int .i64 rn) := by rw [Lib.cell_of_heap hbx]; rfl
        rw [← chcells_append] at hown2
        obtain ⟨oo2, oc2, rfl⟩ := (holds_of hown2).form
        clear hbx hgrow2 c0 c1 c2
        go_wp2_with fail
        go_quiet (fail)
        go_wp2
        go_roundw
        case rel => exact ⟨k + 1, ra + rn, rb + rn, X ++ [⟨a, ra - a, b, rb - b⟩], by omega, ⟨_, _, by rw [List.length_append]; rfl⟩, by go_num, by go_num, by go_num, by omega, by omega, by omega, by omega, Below.dN hB2 _, by rw [List.length_append]; exact hown2, by simp; omega, hV2, (by
            have h := HR.out
            rw [betw] at h
            rw [if_pos (by dsimp only; omega)] at h
            show _ = _
            rw [← h]
            simp)⟩
        case measure => simp [intOf]; omega
      · go_wp2_with fail
        go_quiet (fail)
        go_wp2
        go_roundw
        case rel => exact ⟨k + 1, ra + rn, rb + rn, X, by omega, ⟨_, _, rfl⟩, by go_num, by go_num, by go_num, by omega, by omega, by omega, by omega, Below.dN (hB.alloc (by omega) _) _, hO.alloc _, by omega, hV.alloc _, (by
            have h := HR.out
            rw [betw] at h
            rw [if_neg (by dsimp only; omega)] at h
            exact h)⟩
        case measure => simp [intOf]; omega
    · have hR' := hR.out
      rw [List.drop_of_length_le (by omega), betw, List.append_nil] at hR'
      subst hR'
      clear hR
      go_wp2
      go_loopw [63] (fun iv wr2 => ∃ k : Nat, k ≤ X.length ∧ iv = .int .i64 k ∧ Below base w wr2 ∧ HCh wr2 (.slice oo X.length oc) X) (fun iv _ => X.length - (intOf iv).toNat)
      case atStart => exact ⟨0, Nat.zero_le _, rfl, hB, holds_of hO⟩
      case round =>
        obtain ⟨j, hj, rfl, hBj, hXj⟩ := hrel
        have hszj := hBj.size
        by_cases hjl : j < X.length
        · obtain ⟨bk, off, rfl, hbk, hc⟩ := HCh.at hXj (by omega)
          obtain ⟨c0, c1, c2, c3⟩ := hc j hjl
          obtain ⟨c, hcd⟩ : ∃ c, X[j] = c := ⟨_, rfl⟩
          have hnc := hN.out c (by rw [← hcd]; exact List.getElem_mem _)
          rw [hcd] at c0 c1 c2 c3
          clear hc hcd
          obtain ⟨A, AN, B, BN⟩ := c
          dsimp only at c0 c1 c2 c3
          have HQ : Hid (numB ⟨A, AN, B, BN⟩ = true) := hnc
          clear hnc
          have i1 : 0 ≤ (j : Int) := by omega
          have i2 : (j : Int) < (X.length : Int) := by omega
          go_wp2_with fail
          refine (numbered_any ⟨A, AN, B, BN⟩ _).mono ?_
          rintro e w3 ⟨rfl, hB3⟩
          rw [HQ.out]
          have hB4 := ((Below.refl wr.heap.size wr).alloc (Nat.le_refl _) (Obj.cells #[Value.int IntKind.i64 A, Value.int IntKind.i64 AN, Value.int IntKind.i64 B, Value.int IntKind.i64 BN] 53)).trans (hB3.mono (by simp))
          clear c0 c1 c2 c3
          go_wp2
          go_roundw
          case rel => exact ⟨j + 1, by omega, by go_num, hBj.trans (hB4.mono (by omega)), HCh.keep hXj hB4 (Nat.le_refl _)⟩
          case measure => simp [intOf]; omega
        · go_wp2
          go_ret2
          exact ⟨_, rfl, hXj, hBj⟩

theorem Right.num {f : Bool} {a b n m : Int} {l : List Ch} (h : Right f a b n m l) : ∀ c ∈ l, numB c = true := by
  induction l generalizing f a b with
  | nil => simp
  | cons c l ih =>
    intro d hd
    rw [List.mem_cons] at hd
    rcases hd with rfl | hd
    · exact h.1.1
    · exact ih h.2 d hd
theorem Vk.lt {nx m : Int} {K : List Int} (h : Vk nx m K) : ∀ z ∈ K, z = -1 ∨ z < m := by
  induction K generalizing nx with
  | nil => simp
  | cons y t ih =>
    intro z hz
    rw [List.mem_cons] at hz
    rcases h with ⟨rfl, h⟩ | ⟨hy, h1, h2, h3⟩
    · rcases hz with rfl | hz
      · exact .inl rfl
      · exact ih h z hz
    · rcases hz with rfl | hz
      · exact .inr h2
      · exact ih h3 z hz
/-- the script that a list of what is kept makes -/
def mkL (K : List Int) (m : Int) : List Ch := betw 0 0 (keptR 0 K ++ [⟨K.length, m, 0⟩])
theorem mk_script {K : List Int} {m : Int} (h : Vk 0 m K) (h0 : 0 ≤ m) (hm : m ≤ 2147483647) (hl : K.length ≤ 1048576) : Script (mkL K m) K.length m ∧ U 0 0 K.length m (mkL K m) = keptR 0 K := by
  have hf := h.fit h0 (i := 0)
  rw [Int.zero_add] at hf
  have := fit_right hf (Int.le_refl _) (Int.le_refl _) (by omega) hm
  exact ⟨⟨by omega, h0, this.1⟩, this.2⟩
theorem kept_sm {K : List Int} {m : Int} (h : Vk 0 m K) (h0 : 0 ≤ m) (hm : m ≤ 2147483647) (hl : K.length ≤ 1048576) : ∀ r ∈ keptR 0 K ++ [⟨K.length, m, 0⟩], sm r := by
  intro r hr
  rw [List.mem_append, List.mem_singleton] at hr
  rcases hr with hr | rfl
  · rw [mem_keptR] at hr
    obtain ⟨h1, h2, h3, h4⟩ := hr
    have hlt := (List.getElem?_eq_some_iff.1 h3).1
    have hz := List.mem_of_getElem? h3
    have := h.each (Int.le_refl _) _ hz
    have := h.lt _ hz
    unfold sm
    omega
  · unfold sm
    dsimp only
    omega
theorem kept_len (i : Int) (K : List Int) : (keptR i K).length ≤ K.length := by
  induction K generalizing i with
  | nil => simp [keptR]
  | cons z t ih =>
    have := ih (i + 1)
    rw [keptR]
    split <;> simp <;> omega

set_option maxRecDepth 10000 in
set_option maxHeartbeats 4000000 in
theorem Make_f (K : List Int) (m : Int) (L : List Ch) (v : Value) (w : World) (hK : HI w v K) (hlen : K.length ≤ 1048576) (hV : Hid (Vk 0 m K)) (hm0 : 0 ≤ m) (hm : m ≤ 2147483647) (hL : Hid (mkL K m = L)) :
    Calls Tryz.prog 64 #[v, .int .i64 m] w fun e w' => ∃ v', e = .returned (.tuple #[v', .int .i64 0]) ∧ HCh w' v' L ∧ Below w.heap.size w w' := by
  obtain ⟨ao, ca, rfl⟩ := Holds.form hK
  go_enter Tryz.func64, Tryz.ntmps64
  go_wp2
  go_loopw [6, 7, 14] (fun kv nv iv wr => ∃ (k : Nat) (nx : Int) (X : List Rn), k ≤ K.length ∧ (∃ oo oc, kv = .slice oo X.length oc) ∧ nv = .int .i64 nx ∧ iv = .int .i64 k ∧ 0 ≤ nx ∧ nx ≤ m ∧ Below w.heap.size w wr ∧ wr.ownsRow w.heap.size 59 3 kv X.length (rncells X) ∧ X.length ≤ k ∧ Hid (Vk nx m (K.drop k) ∧ X ++ keptR k (K.drop k) = keptR 0 K)) (fun _ _ iv _ => K.length - (intOf iv).toNat)
  case atStart => exact ⟨0, 0, [], Nat.zero_le _, ⟨_, _, rfl⟩, rfl, rfl, by omega, by omega, Below.refl _ w, World.ownsRow_nil _ _ _ _, Nat.zero_le _, (⟨hV.out, rfl⟩ : _ ∧ _)⟩
  case round =>
    obtain ⟨k, nx, X, hk, ⟨oo, oc, rfl⟩, rfl, rfl, hn0, hnm, hB, hO, hX, hR⟩ := hrel
    have hsz := hB.size
    by_cases hlt : k < K.length
    · obtain ⟨bk, off, rfl, hbk, hc⟩ := HI.at (HI.keep hK hB (Nat.le_refl _)) (by omega)
      have c0 := hc k hlt
      have hR' := hR.out
      rw [List.drop_eq_getElem_cons hlt] at hR'
      obtain ⟨z, hzd⟩ : ∃ z, K[k] = z := ⟨_, rfl⟩
      rw [hzd] at hR' c0
      clear hc hzd hR
      have i1 : 0 ≤ (k : Int) := by omega
      have i2 : (k : Int) < (K.length : Int) := by omega
      by_cases hz : z = -1
      · subst hz
        have HR : Hid (Vk nx m (K.drop (k + 1)) ∧ X ++ keptR (k + 1 : Nat) (K.drop (k + 1)) = keptR 0 K) := (by
          obtain ⟨h1, h2⟩ := hR'
          rw [keptR, if_pos rfl] at h2
          rcases h1 with ⟨_, h1⟩ | ⟨h1, _⟩
          · exact ⟨h1, h2⟩
          · exact absurd rfl h1)
        clear hR'
        go_wp2
        go_roundw
        case rel => exact ⟨k + 1, nx, X, by omega, ⟨_, _, rfl⟩, rfl, by go_num, hn0, hnm, hB, hO, by omega, HR⟩
        case measure => simp [intOf]; omega
      · have hq : nx ≤ z ∧ z < m ∧ Vk (z + 1) m (K.drop (k + 1)) := by
          rcases hR'.1 with ⟨h1, _⟩ | ⟨_, h1⟩
          · exact absurd h1 hz
          · exact h1
        obtain ⟨q1, q2, q3⟩ := hq
        have HR : Hid (Vk (z + 1) m (K.drop (k + 1)) ∧ X ++ [⟨k, z, 1⟩] ++ keptR (k + 1 : Nat) (K.drop (k + 1)) = keptR 0 K) := (by
          obtain ⟨_, h2⟩ := hR'
          rw [keptR, if_neg hz] at h2
          refine ⟨q3, ?_⟩
          rw [← h2, List.append_assoc]
          rfl)
        clear hR' q3
        have hz2 : decide (z = -1) = false := decide_eq_false hz
        go_wp2_with (at_builtin; refine wpList_append_h _ (by kernel_rfl) (.tmp 29) (.tmp 33) 137 59 (.agg #[.int .i64 0, .int .i64 0, .int .i64 0]) 3 24 rfl Tryz.underlying137 infoRn rfl (by decide) (by decide) w.heap.size _ _ _ rfl (hO.alloc _) _ 1 (rncells [⟨k, z, 1⟩]) rfl (new_holds _ _ _ _ _ (by decide)) rfl (rncells_one _) (by omega) (by simp; omega) ?_)
        intro v2 w2 hown2 hgrow2
        have hB2 : Below w.heap.size w w2 := (hB.alloc (by omega) _).grown hgrow2 (by simp; omega) (fun _ hj => owns_ge hO hj)
        rw [← rncells_append] at hown2
        obtain ⟨oo2, oc2, rfl⟩ := (holds_of hown2).form
        clear hgrow2 c0
        go_wp2
        go_roundw
        case rel => exact ⟨k + 1, z + 1, X ++ [⟨k, z, 1⟩], by omega, ⟨_, _, by rw [List.length_append]; rfl⟩, by go_num, by go_num, by omega, by omega, hB2, by rw [List.length_append]; exact hown2, by simp; omega, HR⟩
        case measure => simp [intOf]; omega
    · have hR' := hR.out
      rw [List.drop_of_length_le (by omega), keptR, List.append_nil] at hR'
      have hXe := hR'.2
      subst hXe
      clear hR hR'
      go_wp2_with fail
      refine (between_f _ _ L K.length m _ w.heap.size wr (by omega) hO (by have := kept_len 0 K; omega) rfl hL (kept_sm hV.out hm0 hm hlen) (by
        have h := (mk_script hV.out hm0 hm hlen).1.2.2.num
        rw [hL.out] at h
        exact h)).mono ?_
      rintro e w2 ⟨v', rfl, hv', hB2⟩
      go_wp2
      go_ret2
      exact ⟨_, rfl, hv', hB.trans hB2⟩
end Go.Proofs.YtjhanfiohfakoaaGreatDoor

/- The table of lengths: row, at, measure, walked. -/
set_option maxRecDepth 20000
namespace Go.Proofs.YtjhanfiohfakoaaGreatDoor
open Go.RowKit

theorem info16 : (Tryz.prog.info? 167).map (fun i => (i.zero, i.size, i.bytes)) = some (some (.int .i16 0), 1, 2) := by kernel_rfl
/-- a table as a value -/
def tabV (W g N : Nat) : Value := .agg #[.int .i64 (W : Int), .slice (some ⟨g, 0, none⟩) N N]
theorem run_row (g N p q : Nat) (hpq : p ≤ q) (hq : q ≤ N) (hp : p < N) (u : World) :
    (Instr.slice 141 (.slice (some ⟨g, 0, none⟩) N N) (some (.int .i64 (p : Int))) (some (.int .i64 (q : Int))) none).run Tryz.prog u = .ok (.slice (some ⟨g, p, none⟩) (q - p) (N - p)) u := by
  rw [run_slice_lh (P := Tryz.prog) u 141 (some ⟨g, 0, none⟩) N N (by kernel_rfl) .i64 .i64 p q (by omega) (by omega) (by omega)]
  have : (sizeOf (Tryz.prog.elem 141)).run Tryz.prog u = .ok 1 u := by kernel_rfl
  rw [this]
  simp [Result.andThen, sliced, add_none]
  omega

set_option maxHeartbeats 1000000 in
theorem row_f (W g N p q L : Nat) (hL : q - p = L) (z : Int) (w : World) (h1 : z * (W : Int) = (p : Int)) (h2 : (z + 1) * (W : Int) = (q : Int)) (hpq : p ≤ q) (hq : q ≤ N) (hp : p < N) (hN : N ≤ 1099511627776) (hi0 : 0 ≤ z) (hi : z ≤ 1099511627776) :
    Calls Tryz.prog 113 #[tabV W g N, .int .i64 z] w fun e w' => e = .returned (.slice (some ⟨g, p, none⟩) L (N - p)) ∧ Below w.heap.size w w' := by
  have hr := run_row g N p q hpq hq hp
  rw [hL] at hr
  clear hL
  unfold tabV
  go_enter Tryz.func113, Tryz.ntmps113
  go_wp2
  go_ret
  exact ⟨rfl, (Below.refl _ w).alloc (Nat.le_refl _) _⟩

set_option maxHeartbeats 1000000 in
theorem at_n (W g N i j p q : Nat) (x : Int) (w : World) (h1 : (i : Int) * (W : Int) = (p : Int)) (h2 : (p : Int) + (j : Int) = (q : Int)) (hN : N ≤ 1099511627776) (hpj : q < N) (hx : w.cell? ⟨g, q, none⟩ = some (.int .i16 x)) (hx0 : 0 ≤ x) (hx1 : x ≤ 4096) :
    Calls Tryz.prog 96 #[tabV W g N, .int .i64 (i : Int), .int .i64 (j : Int)] w fun e w' => e = .returned (.int .i64 x) ∧ Below w.heap.size w w' := by
  have hg := World.block_lt_of_cell? w _ hx
  have hx' : (w.alloc (Obj.cells #[Value.int IntKind.i64 (W : Int), Value.slice (some ⟨g, 0, none⟩) N N] 143)).cell? ⟨g, q, none⟩ = some (.int .i16 x) := by
    rw [World.cell?_of_block (w := w) (Below.heap_alloc _ _ _ hg)]; exact hx
  have i1 : 0 ≤ (q : Int) := by omega
  have i2 : (q : Int) < (N : Int) := by omega
  unfold tabV
  go_enter Tryz.func96, Tryz.ntmps96
  go_wp2
  go_ret
  exact ⟨rfl, (Below.refl _ w).alloc (Nat.le_refl _) _⟩
theorem at_f (W g N p q : Nat) (i j x : Int) (w : World) (hi : 0 ≤ i) (hj : 0 ≤ j) (h1 : i * (W : Int) = (p : Int)) (h2 : (p : Int) + j = (q : Int)) (hN : N ≤ 1099511627776) (hpj : q < N) (hx : w.cell? ⟨g, q, none⟩ = some (.int .i16 x)) (hx0 : 0 ≤ x) (hx1 : x ≤ 4096) :
    Calls Tryz.prog 96 #[tabV W g N, .int .i64 i, .int .i64 j] w fun e w' => e = .returned (.int .i64 x) ∧ Below w.heap.size w w' := by
  obtain ⟨a, rfl⟩ := Int.eq_ofNat_of_zero_le hi
  obtain ⟨b, rfl⟩ := Int.eq_ofNat_of_zero_le hj
  exact at_n W g N a b p q x w h1 h2 hN hpj hx hx0 hx1
end Go.Proofs.YtjhanfiohfakoaaGreatDoor
