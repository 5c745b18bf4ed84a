/-
  Texts that belong together, joined: EdChk, EdIter, EdOwn, EdKeep, EdWalk, EdDrew, EdRChk, HuRow, HuRf1, HuRf2, HuRf3, PcReg, HuRf4, HuRf5, HuRf6, HuRf7, PcLs, HuOwn, HuC1, HuIv, HuCn, HuOne, HuCh, HuGr.
-/
import Derived.Test.YtgiojkhmkeocfaaGreatDoorNomalA3
import Derived.RangeFuncNested
import Derived.RangeFuncBound
import Derived.RangeFuncCalls
import Derived.RangeFuncLeaves
import Derived.RangeFuncBox
import Derived.Shelf.Abstract
import Derived.Shelf.RegionOpen
import Derived.OwnWalkIn
import Derived.TacticsInMore
import Derived.LoopNIn
import Derived.LoopIn
import Derived.Maps.AppendAt
import Derived.Deep.RegionHeld3
import Derived.Deep.CutRange
import Derived.Deep.DeepCutAuto
import Derived.Laws.Rows

/- Which lists of changes are edit scripts: the code's Check, walked. -/
set_option maxRecDepth 20000
namespace Go.Proofs.YtgiojkhmkeocfaaGreatDoor
open Go.RowKit

theorem ret_bool {a b : Bool} (h : a = b) : Ending.returned (.bool a) = .returned (.bool b) := by rw [h]
theorem ret_int {k : IntKind} {a b : Int} (h : a = b) : Ending.returned (.int k a) = .returned (.int k b) := by rw [h]
set_option maxHeartbeats 1000000 in
theorem numbered_any (c : Ch) (w : World) : Calls Tryz.prog 142 #[chV c] w fun e w' => e = .returned (.bool (numB c)) ∧ Below w.heap.size w w' := by
  obtain ⟨A, AN, B, BN⟩ := c
  unfold chV
  dsimp only
  have hB : Below w.heap.size w (w.alloc (.cells #[.int .i64 A, .int .i64 AN, .int .i64 B, .int .i64 BN] 64)) := (Below.refl _ w).alloc (Nat.le_refl _) _
  obtain ⟨b, hb⟩ : ∃ b, numB ⟨A, AN, B, BN⟩ = b := ⟨_, rfl⟩
  rw [hb]
  have Hb : Hid (numB ⟨A, AN, B, BN⟩ = b) := hb
  clear hb
  have i0 : ∀ w, (Instr.index 259 (.agg #[.int .i64 A, .int .i64 AN, .int .i64 B, .int .i64 BN]) (.int .i64 0)).run Tryz.prog w = .ok (.int .i64 A) w := fun _ => by kernel_rfl
  have i1 : ∀ w, (Instr.index 259 (.agg #[.int .i64 A, .int .i64 AN, .int .i64 B, .int .i64 BN]) (.int .i64 1)).run Tryz.prog w = .ok (.int .i64 AN) w := fun _ => by kernel_rfl
  have i2 : ∀ w, (Instr.index 259 (.agg #[.int .i64 A, .int .i64 AN, .int .i64 B, .int .i64 BN]) (.int .i64 2)).run Tryz.prog w = .ok (.int .i64 B) w := fun _ => by kernel_rfl
  have i3 : ∀ w, (Instr.index 259 (.agg #[.int .i64 A, .int .i64 AN, .int .i64 B, .int .i64 BN]) (.int .i64 3)).run Tryz.prog w = .ok (.int .i64 BN) w := fun _ => by kernel_rfl
  go_enter Tryz.func142, Tryz.ntmps142
  go_wp2
  go_loopw [14] (fun i wr => ∃ k : Nat, k ≤ 4 ∧ i = .int .i64 k ∧ wr = w.alloc (.cells #[.int .i64 A, .int .i64 AN, .int .i64 B, .int .i64 BN] 64) ∧ Hid ((0 < k → (0 ≤ A ∧ A ≤ 2147483647)) ∧ (1 < k → (0 ≤ AN ∧ AN ≤ 2147483647)) ∧ (2 < k → (0 ≤ B ∧ B ≤ 2147483647)) ∧ (3 < k → (0 ≤ BN ∧ BN ≤ 2147483647)))) (fun i _ => 4 - (intOf i).toNat)
  case atStart => exact ⟨0, Nat.zero_le _, rfl, rfl, (⟨fun h => absurd h (by omega), fun h => absurd h (by omega), fun h => absurd h (by omega), fun h => absurd h (by omega)⟩)⟩
  case round =>
    obtain ⟨k, hk, rfl, rfl, hok⟩ := hrel
    rcases (by omega : k = 0 ∨ k = 1 ∨ k = 2 ∨ k = 3 ∨ k = 4) with rfl | rfl | rfl | rfl | rfl
    · by_cases h0 : A < 0
      · go_wp2
        go_ret
        refine ⟨ret_bool ?_, hB⟩
        rw [← Hb.out]
        simp [numB, nat31]
        omega
      · by_cases h1 : 2147483647 < A
        · go_wp2
          go_ret
          refine ⟨ret_bool ?_, hB⟩
          rw [← Hb.out]
          simp [numB, nat31]
          omega
        · go_wp2
          go_roundw
          case rel => exact ⟨1, by omega, by go_num, trivial, (by have := hok.out; show _ ∧ _ ∧ _ ∧ _; refine ⟨?_, ?_, ?_, ?_⟩ <;> intro _ <;> omega)⟩
          case measure => simp [intOf]
    · by_cases h0 : AN < 0
      · go_wp2
        go_ret
        refine ⟨ret_bool ?_, hB⟩
        rw [← Hb.out]
        simp [numB, nat31]
        omega
      · by_cases h1 : 2147483647 < AN
        · go_wp2
          go_ret
          refine ⟨ret_bool ?_, hB⟩
          rw [← Hb.out]
          simp [numB, nat31]
          omega
        · go_wp2
          go_roundw
          case rel => exact ⟨2, by omega, by go_num, trivial, (by have := hok.out; show _ ∧ _ ∧ _ ∧ _; refine ⟨?_, ?_, ?_, ?_⟩ <;> intro _ <;> omega)⟩
          case measure => simp [intOf]
    · by_cases h0 : B < 0
      · go_wp2
        go_ret
        refine ⟨ret_bool ?_, hB⟩
        rw [← Hb.out]
        simp [numB, nat31]
        omega
      · by_cases h1 : 2147483647 < B
        · go_wp2
          go_ret
          refine ⟨ret_bool ?_, hB⟩
          rw [← Hb.out]
          simp [numB, nat31]
          omega
        · go_wp2
          go_roundw
          case rel => exact ⟨3, by omega, by go_num, trivial, (by have := hok.out; show _ ∧ _ ∧ _ ∧ _; refine ⟨?_, ?_, ?_, ?_⟩ <;> intro _ <;> omega)⟩
          case measure => simp [intOf]
    · by_cases h0 : BN < 0
      · go_wp2
        go_ret
        refine ⟨ret_bool ?_, hB⟩
        rw [← Hb.out]
        simp [numB, nat31]
        omega
      · by_cases h1 : 2147483647 < BN
        · go_wp2
          go_ret
          refine ⟨ret_bool ?_, hB⟩
          rw [← Hb.out]
          simp [numB, nat31]
          omega
        · go_wp2
          go_roundw
          case rel => exact ⟨4, by omega, by go_num, trivial, (by have := hok.out; show _ ∧ _ ∧ _ ∧ _; refine ⟨?_, ?_, ?_, ?_⟩ <;> intro _ <;> omega)⟩
          case measure => simp [intOf]
    · have hok' := hok.out
      by_cases h0 : 0 < AN
      · go_wp2
        go_ret
        refine ⟨ret_bool ?_, hB⟩
        rw [← Hb.out]
        simp [numB, nat31]
        omega
      · by_cases h1 : 0 < BN
        · go_wp2
          go_ret
          refine ⟨ret_bool ?_, hB⟩
          rw [← Hb.out]
          simp [numB, nat31]
          omega
        · go_wp2
          go_ret
          refine ⟨ret_bool ?_, hB⟩
          rw [← Hb.out]
          simp [numB, nat31]
          omega

set_option maxRecDepth 10000 in
set_option maxHeartbeats 2000000 in
theorem Check_f (l : List Ch) (n m r : Int) (v : Value) (w : World) (hl : HCh w v l) (hlen : l.length ≤ 1099511627776) (hn : n ≤ 9223372036854775807) (hm : m ≤ 9223372036854775807) (hr : Hid (chk l n m = r)) :
    Calls Tryz.prog 86 #[v, .int .i64 n, .int .i64 m] w fun e w' => e = .returned (.int .i64 r) ∧ Below w.heap.size w w' := by
  obtain ⟨ao, ca, rfl⟩ := Holds.form hl
  by_cases hn0 : n < 0
  · go_enter Tryz.func86, Tryz.ntmps86
    go_wp2
    go_ret
    refine ⟨ret_int ?_, Below.refl _ w⟩
    rw [← hr.out, chk_no (fun h => by have := h.1; omega)]
  by_cases hm0 : m < 0
  · go_enter Tryz.func86, Tryz.ntmps86
    go_wp2
    go_ret
    refine ⟨ret_int ?_, Below.refl _ w⟩
    rw [← hr.out, chk_no (fun h => by have := h.2.1; omega)]
  go_enter Tryz.func86, Tryz.ntmps86
  go_wp2
  go_loopw [7, 8, 19] (fun av bv iv wr => ∃ (k : Nat) (a b : Int), k ≤ l.length ∧ av = .int .i64 a ∧ bv = .int .i64 b ∧ iv = .int .i64 k ∧ 0 ≤ a ∧ a ≤ n ∧ 0 ≤ b ∧ b ≤ m ∧ Below w.heap.size w wr ∧ Hid (Script l n m ↔ Right (decide (k = 0)) a b n m (l.drop k))) (fun _ _ iv _ => l.length - (intOf iv).toNat)
  case atStart => exact ⟨0, 0, 0, Nat.zero_le _, rfl, rfl, rfl, by omega, by omega, by omega, by omega, Below.refl _ w, (by show _ ↔ _; simp only [Script, List.drop_zero, decide_true]; constructor; exact fun h => h.2.2; exact fun h => ⟨by omega, by omega, h⟩)⟩
  case round =>
    obtain ⟨k, a, b, hk, rfl, rfl, rfl, ha, han, hb, hbm, hB, hR⟩ := hrel
    by_cases hlt : k < l.length
    · obtain ⟨bk, off, rfl, hbk, hc⟩ := HCh.at (HCh.keep hl hB (Nat.le_refl _)) (by omega)
      obtain ⟨c0, c1, c2, c3⟩ := hc k hlt
      have hR' := hR.out
      rw [List.drop_eq_getElem_cons hlt] at hR'
      obtain ⟨c, hcd⟩ : ∃ c, l[k] = c := ⟨_, rfl⟩
      rw [hcd] at hR' c0 c1 c2 c3
      clear hc hcd hR
      have HR : Hid (Script l n m ↔ Right (decide (k = 0)) a b n m (c :: l.drop (k + 1))) := hR'
      clear hR'
      have i1 : 0 ≤ (k : Int) := by omega
      have i2 : (k : Int) < (l.length : Int) := by omega
      obtain ⟨A, AN, B, BN⟩ := c
      dsimp only at c0 c1 c2 c3
      have hsz := hB.size
      go_wp2_with fail
      have hB1 : Below w.heap.size w (wr.alloc (Obj.cells #[Value.int IntKind.i64 A, Value.int IntKind.i64 AN, Value.int IntKind.i64 B, Value.int IntKind.i64 BN] 64)) := hB.alloc hsz _
      refine (numbered_any ⟨A, AN, B, BN⟩ _).mono ?_
      rintro e w1 ⟨rfl, hb1⟩
      have hB2 : Below w.heap.size w w1 := hB1.trans (hb1.mono (by simp; omega))
      have hbox := hb1.block wr.heap.size (by simp)
      rw [_root_.Go.heap_alloc_new] at hbox
      have d0 : w1.cell? ⟨wr.heap.size, 0, none⟩ = some (.int .i64 A) := by rw [Lib.cell_of_heap hbox]; rfl
      have d1 : w1.cell? ⟨wr.heap.size, 1, none⟩ = some (.int .i64 AN) := by rw [Lib.cell_of_heap hbox]; rfl
      have d2 : w1.cell? ⟨wr.heap.size, 2, none⟩ = some (.int .i64 B) := by rw [Lib.cell_of_heap hbox]; rfl
      have d3 : w1.cell? ⟨wr.heap.size, 3, none⟩ = some (.int .i64 BN) := by rw [Lib.cell_of_heap hbox]; rfl
      clear hbox c0 c1 c2 c3 hb1 hB1 hB
      by_cases hq : numB ⟨A, AN, B, BN⟩ = true
      · rw [hq]
        have HQ : Hid (numB ⟨A, AN, B, BN⟩ = true) := hq
        rw [numB_iff] at hq
        dsimp only at hq
        obtain ⟨⟨hA0, hA1⟩, ⟨hAN0, hAN1⟩, ⟨hB0, hB1⟩, ⟨hBN0, hBN1⟩, hpos⟩ := hq
        by_cases h1 : A - a = B - b
        · by_cases h2 : AN > n - A
          · go_wp2_with fail
            go_ret
            refine ⟨ret_int ?_, hB2⟩
            rw [← hr.out, chk_no]
            exact fun h => by have h5 := HR.out.1 h; obtain ⟨⟨q1, q2, q3, q4⟩, q5⟩ := h5; have q6 := q5.le; dsimp only at q6; omega
          by_cases h3 : BN > m - B
          · go_wp2_with fail
            go_ret
            refine ⟨ret_int ?_, hB2⟩
            rw [← hr.out, chk_no]
            exact fun h => by have h5 := HR.out.1 h; obtain ⟨⟨q1, q2, q3, q4⟩, q5⟩ := h5; have q6 := q5.le; dsimp only at q6; omega
          by_cases h4 : A < a
          · go_wp2_with fail
            go_ret
            refine ⟨ret_int ?_, hB2⟩
            rw [← hr.out, chk_no]
            exact fun h => by have h5 := HR.out.1 h; obtain ⟨⟨q1, q2, q3, q4⟩, q5⟩ := h5; have q6 := q5.le; dsimp only at q3; omega
          by_cases h5 : A = a
          · by_cases h6 : 0 < (k : Int)
            · go_wp2_with fail
              go_ret
              refine ⟨ret_int ?_, hB2⟩
              rw [← hr.out, chk_no]
              exact fun h => by
                obtain ⟨⟨q1, q2, q3, q4⟩, q5⟩ := HR.out.1 h
                rcases q4 with q4 | q4
                · have := of_decide_eq_true q4; omega
                · dsimp only at q4; omega
            · go_wp2_with fail
              go_quiet (fail)
              go_wp2
              go_roundw
              case rel => exact ⟨k + 1, A + AN, B + BN, by omega, by go_num, by go_num, by go_num, by omega, by omega, by omega, by omega, Below.dN hB2 _, (by
                show _ ↔ _
                refine HR.out.trans ?_
                have : decide (k + 1 = 0) = false := by simp
                rw [this]
                exact ⟨fun h => h.2, fun h => ⟨⟨HQ.out, h1, by dsimp only; omega, .inl (decide_eq_true (by omega))⟩, h⟩⟩)⟩
              case measure => simp [intOf]; omega
          · go_wp2_with fail
            go_quiet (fail)
            go_wp2
            go_roundw
            case rel => exact ⟨k + 1, A + AN, B + BN, by omega, by go_num, by go_num, by go_num, by omega, by omega, by omega, by omega, Below.dN hB2 _, (by
                show _ ↔ _
                refine HR.out.trans ?_
                have : decide (k + 1 = 0) = false := by simp
                rw [this]
                exact ⟨fun h => h.2, fun h => ⟨⟨HQ.out, h1, by dsimp only; omega, .inr (by dsimp only; omega)⟩, h⟩⟩)⟩
            case measure => simp [intOf]; omega
        · go_wp2_with fail
          go_ret
          refine ⟨ret_int ?_, hB2⟩
          rw [← hr.out, chk_no]
          exact fun h => by have h5 := HR.out.1 h; obtain ⟨⟨q1, q2, q3, q4⟩, q5⟩ := h5; have q6 := q5.le; dsimp only at q2; omega
      · have hq' : numB ⟨A, AN, B, BN⟩ = false := by simpa using hq
        have HQ : Hid (numB ⟨A, AN, B, BN⟩ = false) := hq'
        rw [hq']
        clear hq hq'
        go_wp2_with fail
        go_ret
        refine ⟨ret_int ?_, hB2⟩
        rw [← hr.out, chk_no]
        exact fun h => by
          obtain ⟨⟨q1, q2, q3, q4⟩, q5⟩ := HR.out.1 h
          rw [HQ.out] at q1
          cases q1
    · by_cases he : n - a = m - b
      · go_wp2
        go_ret
        refine ⟨ret_int ?_, hB⟩
        rw [← hr.out, chk_ok]
        have := hR.out
        rw [List.drop_of_length_le (by omega)] at this
        exact this.2 ⟨han, hbm, he⟩
      · go_wp2
        go_ret
        refine ⟨ret_int ?_, hB⟩
        rw [← hr.out, chk_no]
        have := hR.out
        rw [List.drop_of_length_le (by omega)] at this
        exact fun h => he (this.1 h).2.2
end Go.Proofs.YtgiojkhmkeocfaaGreatDoor

/- The iterator over a script's pieces: its contract for every loop body that keeps what it reads. -/
set_option maxRecDepth 20000
namespace Go.Proofs.YtgiojkhmkeocfaaGreatDoor
open Go.RowKit Go.Shelf
attribute [local go_sem] Oper.semAt_some

/-- what a round keeps: all below n₀, the iterator's three boxes from lo on, every block of a change -/
structure Kp (n₀ lo : Nat) (W W' : World) : Prop where
  low : Below n₀ W W'
  box : ∀ k, lo ≤ k → k < lo + 3 → W'.heap[k]? = W.heap[k]?
  chg : ∀ (k : Nat) (cs : Array Value), W.heap[k]? = some (Obj.cells cs 64 (0, 0)) → W'.heap[k]? = some (Obj.cells cs 64 (0, 0))
section
variable {n₀ lo : Nat} {A B C : World}
theorem Kp.refl (W : World) : Kp n₀ lo W W := ⟨Below.refl _ _, fun _ _ _ => rfl, fun _ _ h => h⟩
theorem Kp.trans (h : Kp n₀ lo A B) (k : Kp n₀ lo B C) : Kp n₀ lo A C := ⟨h.low.trans k.low, fun j h1 h2 => (k.box j h1 h2).trans (h.box j h1 h2), fun j cs hj => k.chg j cs (h.chg j cs hj)⟩
theorem Kp.alloc {W : World} (hn : n₀ ≤ W.heap.size) (hl : lo + 3 ≤ W.heap.size) (o : Obj) : Kp n₀ lo W (W.alloc o) :=
  ⟨(Below.refl _ W).alloc hn o, fun k _ hk => Below.heap_alloc W o k (by omega), fun k cs hk => (Below.heap_alloc W o k (Array.getElem?_eq_some_iff.1 hk).1).trans hk⟩
theorem Kp.drewN (W : World) (k : Nat) : Kp n₀ lo W (W.drewN k) := ⟨Below.dN (Below.refl _ W) k, fun _ _ _ => rfl, fun _ _ h => h⟩
end

theorem HCh.lt {w : World} {ao : Option Addr} {n c : Nat} {l : List Ch} (h : HCh w (.slice ao n c) l) (a : Addr) (ha : ao = some a) (h0 : 0 < l.length) : a.block < w.heap.size := by
  obtain ⟨b, off, hb, hlt, _⟩ := HCh.at h h0
  rw [ha] at hb
  cases hb
  exact hlt

end Go.Proofs.YtgiojkhmkeocfaaGreatDoor

/- A row of the caller's own, in a box, within a range over the iterator. -/
set_option maxRecDepth 20000
namespace Go.Proofs.YtgiojkhmkeocfaaGreatDoor
open Go.RowKit Go.Shelf
attribute [local go_sem] Oper.semAt_some

theorem new_holds (W : World) (cs : Array Value) (e : TypeId) (k c : Nat) (hkc : k ≤ c) : Holds (W.alloc (.cells cs e)) (.slice (some ⟨W.heap.size, 0, none⟩) k c) k cs.toList := by
  refine .inr ⟨_, _, rfl, hkc, fun j u hj => ?_⟩
  rw [add_none, Lib.cell_of_heap (_root_.Go.heap_alloc_new W _)]
  simpa using hj
/-- a row of the caller's own, in a box of his; the row lies apart from the iterator's boxes -/
structure OwnR (n₀ lo B : Nat) (t e : TypeId) (s : Nat) (v : Value) (k : Nat) (xs : List Value) (W : World) : Prop where
  box : Boxed W B t v
  row : W.ownsRow n₀ e s v k xs
  far : ∀ g, v.ownBlock = some g → g < lo ∨ lo + 3 ≤ g
section
variable {n₀ lo B : Nat} {t e : TypeId} {s : Nat} {v : Value} {k : Nat} {xs : List Value} {W : World}
theorem OwnR.alloc (h : OwnR n₀ lo B t e s v k xs W) (o : Obj) : OwnR n₀ lo B t e s v k xs (W.alloc o) := ⟨h.box.alloc o, h.row.alloc o, h.far⟩
end
end Go.Proofs.YtgiojkhmkeocfaaGreatDoor

/- What a script keeps: the code's Keep, walked. -/
set_option maxRecDepth 20000
namespace Go.Proofs.YtgiojkhmkeocfaaGreatDoor
open Go.RowKit Go.Shelf
attribute [local go_sem] Oper.semAt_some


end Go.Proofs.YtgiojkhmkeocfaaGreatDoor

/- Laws for the plain walk: append onto an owned row of elements of whatever width, as a step of the walk and of a region that draws; Same of numbers, of changes. -/
set_option maxRecDepth 20000
namespace Go.Proofs.YtgiojkhmkeocfaaGreatDoor
open Go.RowKit

theorem run_append_h (w : World) (T E ty : TypeId) (z : Value) (size bytes : Nat) (hT : Tryz.prog.underlying T = some (.slice E)) (hinfo : (Tryz.prog.info? E).map (fun i => (i.zero, i.size, i.bytes)) = some (some z, size, bytes)) (hz1 : z.cells.size = size) (hsz : 0 < size) (hby : bytes ≤ 32)
    (base : Nat) (v : Value) (k : Nat) (xs : List Value) (hown : w.ownsRow base E size v k xs) (vx : Value) (m : Nat) (news : List Value) (hh : Holds w vx m news) (hl : news.length = m * size)
    (h1 : ∀ u ∈ news, u.oneCell' = true) (hk : k + m ≤ 4398046511104) (hbase : base ≤ w.heap.size) :
    ∃ v' w', (Builtin.append_ #[T, T] ty #[v, vx]).run Tryz.prog w = .ok v' w' ∧ w'.ownsRow base E size v' (k + m) (xs ++ news) ∧ w.grownBy w' v.ownBlock ∧ (v'.ownBlock = v.ownBlock ∨ v'.ownBlock = some w.heap.size) := by
  obtain ⟨i0, hi0, hz0, hzs, hz2⟩ := info_parts hinfo
  rcases hh with ⟨rfl, rfl, rfl⟩ | ⟨ad, c, rfl, _, hc⟩
  · exact ⟨v, w, run_append_owned_none (P := Tryz.prog) (w := w) base T ty E i0 size hT hi0 v k xs hown, by simpa using hown, World.grownBy.refl _ _, .inl rfl⟩
  · obtain ⟨v', w', hr, h2, h3, _, h5⟩ := run_append_own_at (P := Tryz.prog) w base T ty E i0 z size bytes hT hi0 hz0 hzs hz2 hz1 hsz v k xs hown ad m c news hl hc h1 (by unfold maxLen; omega) (by
      have : (k + m) * bytes ≤ (k + m) * 32 := Nat.mul_le_mul_left _ hby
      omega) hbase
    exact ⟨v', w', hr, h2, h3, h5⟩

theorem wpList_append_h {ops : Array Oper} {rest : List Oper} {o : Oper} {a : Act} {Q : Exit → Act → World → Prop} (w : World) (hw : Region.wanted o (yielded ops a.tmps) = true) (s x : Operand) (T E : TypeId) (z : Value) (size bytes : Nat)
    (ho : o.op = .call { callee := .builtin .append, args := #[s, x], argTypes := #[T, T] }) (hT : Tryz.prog.underlying T = some (.slice E)) (hinfo : (Tryz.prog.info? E).map (fun i => (i.zero, i.size, i.bytes)) = some (some z, size, bytes)) (hz1 : z.cells.size = size) (hsz : 0 < size) (hby : bytes ≤ 32)
    (base : Nat) (v : Value) (k : Nat) (xs : List Value) (hs : a.eval s = v) (hown : w.ownsRow base E size v k xs) (vx : Value) (m : Nat) (news : List Value) (hx : a.eval x = vx) (hh : Holds w vx m news) (hl : news.length = m * size)
    (h1 : ∀ u ∈ news, u.oneCell' = true) (hk : k + m ≤ 4398046511104) (hbase : base ≤ w.heap.size)
    (h : ∀ v' w', w'.ownsRow base E size v' (k + m) (xs ++ news) → w.grownBy w' v.ownBlock → wpList Tryz.prog ops Q rest (a.put o.dst v') w') : wpList Tryz.prog ops Q (o :: rest) a w := by
  refine wpList_step fun K hK => ?_
  rw [if_pos hw]
  obtain ⟨v', w', hr, h2, h3, _⟩ := run_append_h w T E o.type z size bytes hT hinfo hz1 hsz hby base v k xs hown vx m news hh hl h1 hk hbase
  unfold Oper.wp
  simp [execOp, ho, resolve, invoke, builtin, hs, hx, hr, Result.andThen]
  exact hK _ _ (h v' w' h2 h3)

theorem owns_keep {w w' : World} {base : Nat} {e : TypeId} {s : Nat} {v : Value} {n : Nat} {xs : List Value} (h : w.ownsRow base e s v n xs) (hk : Below w.heap.size w w') : w'.ownsRow base e s v n xs := by
  refine ⟨h.1, ?_⟩
  rcases h.2 with h1 | ⟨g, cap, cur, q1, q2, q3, q4⟩
  · exact .inl h1
  · exact .inr ⟨g, cap, cur, q1, q2, (hk.block g (Array.getElem?_eq_some_iff.1 q3).1).trans q3, q4⟩
theorem owns_ge {w : World} {base : Nat} {e : TypeId} {s : Nat} {v : Value} {n : Nat} {xs : List Value} (h : w.ownsRow base e s v n xs) {j : Nat} (hj : v.ownBlock = some j) : base ≤ j := by
  rcases h.2 with ⟨rfl, _⟩ | ⟨g, cap, cur, rfl, hb, _⟩
  · cases hj
  · simp [Value.ownBlock] at hj; omega

/-- all ahead of a call as it was -/
def Low (W w : World) : Prop := Below W.heap.size W w
theorem low_drew (W w : World) : Low W w.drew ↔ Low W w := ⟨fun h => ⟨h.os, h.tape, h.output, h.size, h.block⟩, fun h => Below.dN h 1⟩
theorem low_alloc {W w : World} (o : Obj) (h : Low W w) : Low W (w.alloc o) := Below.alloc h (Below.size h) o
/-- a row of one's own, and all ahead of a call as it was -/
structure St (W : World) (e : TypeId) (s : Nat) (v : Value) (k : Nat) (xs : List Value) (w : World) : Prop where
  own : w.ownsRow W.heap.size e s v k xs
  low : Below W.heap.size W w
theorem st_drew (W : World) (e : TypeId) (s : Nat) (v : Value) (k : Nat) (xs : List Value) (w : World) : St W e s v k xs w.drew ↔ St W e s v k xs w :=
  ⟨fun h => ⟨h.own, ⟨h.low.os, h.low.tape, h.low.output, h.low.size, h.low.block⟩⟩, fun h => ⟨h.own, Below.dN h.low 1⟩⟩
theorem st_alloc {W : World} {e : TypeId} {s : Nat} {v : Value} {k : Nat} {xs : List Value} {w : World} (o : Obj) (h : St W e s v k xs w) : St W e s v k xs (w.alloc o) := ⟨h.own.alloc o, h.low.alloc h.low.size o⟩
theorem St.grown {W : World} {e : TypeId} {s : Nat} {v v' : Value} {k k' : Nat} {xs xs' : List Value} {w w' : World} (h : St W e s v k xs w) (ho : w'.ownsRow W.heap.size e s v' k' xs') (hg : w.grownBy w' v.ownBlock) : St W e s v' k' xs' w' :=
  ⟨ho, h.low.grown hg h.low.size (fun _ hj => owns_ge h.own hj)⟩

end Go.Proofs.YtgiojkhmkeocfaaGreatDoor

/- Worlds behind a draw: new rows and what is carried. -/
set_option maxRecDepth 20000
namespace Go.Proofs.YtgiojkhmkeocfaaGreatDoor
open Go.RowKit
attribute [local simp] low_drew

theorem alloc_second (w : World) (o o2 : Obj) : ((w.alloc o).alloc o2).heap[w.heap.size + 1]? = some o2 := by
  have h := _root_.Go.heap_alloc_new (w.alloc o) o2
  rw [World.size_alloc] at h
  exact h
end Go.Proofs.YtgiojkhmkeocfaaGreatDoor

/- Which lists of changes are edit scripts: the reference's Check, walked. -/
set_option maxRecDepth 20000
namespace Go.Proofs.YtgiojkhmkeocfaaGreatDoor
open Go.RowKit

end Go.Proofs.YtgiojkhmkeocfaaGreatDoor

/- Lines with signs and hunks as cells: what slices of them hold; hunks in a box; append onto an owned row of hunks. -/
set_option maxRecDepth 20000
namespace Go.Proofs.YtgiojkhmkeocfaaGreatDoor
open Go.RowKit

def mkC (m : Mk) : List Value := [.int .u8 m.sg, .string ⟨m.tx.toArray⟩]
def mkcells (l : List Mk) : List Value := l.flatMap mkC
theorem infoMk : (Tryz.prog.info? 103).map (fun i => (i.zero, i.size, i.bytes)) = some (some (.agg #[.int .u8 0, .string ⟨#[]⟩]), 2, 24) := by kernel_rfl
theorem infoHk : (Tryz.prog.info? 59).map (fun i => (i.zero, i.size, i.bytes)) = some (some (.agg #[.int .i64 0, .int .i64 0, .int .i64 0, .int .i64 0, .slice none 0 0]), 5, 56) := by kernel_rfl
theorem mkcells_length (l : List Mk) : (mkcells l).length = l.length * 2 := by
  induction l with
  | nil => rfl
  | cons c l ih => simp only [mkcells, List.flatMap_cons, List.length_append, List.length_cons] at ih ⊢; rw [ih]; simp [mkC]; omega
theorem mkcells_append (a b : List Mk) : mkcells (a ++ b) = mkcells a ++ mkcells b := by simp [mkcells]
theorem mkcells_one (l : List Mk) : ∀ u ∈ mkcells l, u.oneCell' = true := by
  intro u hu
  simp only [mkcells, List.mem_flatMap, mkC] at hu
  obtain ⟨c, _, h⟩ := hu
  simp only [List.mem_cons, List.not_mem_nil, or_false] at h
  rcases h with rfl | rfl <;> rfl
theorem mkcells_at (l : List Mk) (k : Nat) (hk : k < l.length) : (mkcells l)[2 * k]? = some (.int .u8 l[k].sg) ∧ (mkcells l)[2 * k + 1]? = some (.string ⟨l[k].tx.toArray⟩) := by
  induction l generalizing k with
  | nil => simp at hk
  | cons c l ih =>
    cases k with
    | zero => simp [mkcells, mkC]
    | succ k =>
      have h := ih k (by simpa using hk)
      have e : ∀ i, (mkcells (c :: l))[2 * (k + 1) + i]? = (mkcells l)[2 * k + i]? := by
        intro i
        have : mkcells (c :: l) = mkC c ++ mkcells l := rfl
        rw [this, List.getElem?_append_right (by simp [mkC]; omega)]
        congr 1
        simp [mkC]; omega
      simp only [List.getElem_cons_succ]
      refine ⟨by rw [← (h).1]; exact e 0, by rw [← h.2]; exact e 1⟩
/-- a slice of lines with signs -/
def HMk (w : World) (v : Value) (l : List Mk) : Prop := Holds w v l.length (mkcells l)
theorem HMk.keep {w w' : World} {v : Value} {l : List Mk} (h : HMk w v l) {N : Nat} (hk : Below N w w') (hN : w.heap.size ≤ N) : HMk w' v l := Holds.keep h fun k hk' => hk.block k (by omega)
theorem HMk.at {w : World} {ao : Option Addr} {n c : Nat} {l : List Mk} (h : HMk w (.slice ao n c) l) (h0 : 0 < l.length) : ∃ b off, ao = some ⟨b, off, none⟩ ∧ b < w.heap.size ∧
    ∀ k (hk : k < l.length), w.cell? ⟨b, off + k * 2, none⟩ = some (.int .u8 l[k].sg) ∧ w.cell? ⟨b, off + k * 2 + 1, none⟩ = some (.string ⟨l[k].tx.toArray⟩) := by
  obtain ⟨b, off, c', hv, hb, hc⟩ := Holds.at h (by rw [mkcells_length]; omega)
  cases hv
  refine ⟨b, off, rfl, hb, fun k hk => ?_⟩
  obtain ⟨h0, h1⟩ := mkcells_at l k hk
  have hlen := mkcells_length l
  have e : k * 2 = 2 * k := by omega
  rw [e]
  refine ⟨?_, ?_⟩
  · have := hc (2 * k) (by omega)
    rw [← h0, this, List.getElem?_eq_getElem]
  · have := hc (2 * k + 1) (by omega)
    rw [← h1, Nat.add_assoc, this, List.getElem?_eq_getElem]
theorem Low.mk {W w : World} (h : Low W w) {b off n c : Nat} {l : List Mk} (hl : HMk W (.slice (some ⟨b, off, none⟩) n c) l) (k : Nat) (hk : k < l.length) {x : Mk} (hx : l[k] = x) : w.cell? ⟨b, off + k * 2, none⟩ = some (.int .u8 x.sg) ∧ w.cell? ⟨b, off + k * 2 + 1, none⟩ = some (.string ⟨x.tx.toArray⟩) := by
  obtain ⟨b', off', e, _, hc⟩ := HMk.at (HMk.keep hl h (Nat.le_refl _)) (by omega)
  cases e
  rw [← hx]
  exact hc k hk
/-- a hunk as a value, in a box -/
def hkV (h : Hk) (v : Value) : Value := .agg #[.int .i64 h.A, .int .i64 h.AN, .int .i64 h.B, .int .i64 h.BN, v]
def hkC (h : Hk) (v : Value) : List Value := [.int .i64 h.A, .int .i64 h.AN, .int .i64 h.B, .int .i64 h.BN, v]
def hkO (h : Hk) (v : Value) : Obj := .cells #[.int .i64 h.A, .int .i64 h.AN, .int .i64 h.B, .int .i64 h.BN, v] 59
def Hx (u : World) (b : Nat) (h : Hk) (v : Value) : Prop := u.heap[b]? = some (hkO h v)
section
variable {u u' : World} {b : Nat} {h : Hk} {v : Value}
theorem Hx.cells (q : Hx u b h v) : u.cell? ⟨b, 0, none⟩ = some (.int .i64 h.A) ∧ u.cell? ⟨b, 1, none⟩ = some (.int .i64 h.AN) ∧ u.cell? ⟨b, 2, none⟩ = some (.int .i64 h.B) ∧ u.cell? ⟨b, 3, none⟩ = some (.int .i64 h.BN) ∧ u.cell? ⟨b, 4, none⟩ = some v := by
  unfold Hx hkO at q
  refine ⟨?_, ?_, ?_, ?_, ?_⟩ <;> rw [Lib.cell_of_heap q] <;> rfl
theorem Hx.frozen (q : Hx u b h v) (j : Nat) : u.frozen? ⟨b, j, none⟩ = false := Lib.frozen_of_heap q j
theorem Hx.lt (q : Hx u b h v) : b < u.heap.size := (Array.getElem?_eq_some_iff.1 q).1
theorem Hx.low (q : Hx u b h v) (hg : Below u.heap.size u u') : Hx u' b h v := (hg.block b q.lt).trans q
theorem Hx.keep (q : Hx u b h v) {g : Option Nat} (hg : u.grownBy u' g) (hr : some b ≠ g) : Hx u' b h v := (hg.block b q.lt hr).trans q
theorem Hx.new (w : World) (h : Hk) (v : Value) : Hx (w.alloc (hkO h v)) w.heap.size h v := _root_.Go.heap_alloc_new w _
end
/-- hunks in a row: each with the slice of its lines -/
def hkcells : List (Hk × Value) → List Value
  | [] => []
  | (h, v) :: l => hkC h v ++ hkcells l
theorem hkcells_length (l : List (Hk × Value)) : (hkcells l).length = l.length * 5 := by
  induction l with
  | nil => rfl
  | cons c l ih =>
    obtain ⟨h, v⟩ := c
    simp only [hkcells, List.length_append, List.length_cons]
    rw [ih]
    simp [hkC]; omega
theorem hkcells_append (a b : List (Hk × Value)) : hkcells (a ++ b) = hkcells a ++ hkcells b := by
  induction a with
  | nil => rfl
  | cons c l ih =>
    obtain ⟨h, v⟩ := c
    simp only [List.cons_append, hkcells, ih, List.append_assoc]
theorem hkcells_at (l : List (Hk × Value)) (k : Nat) (hk : k < l.length) : (hkcells l)[5 * k]? = some (.int .i64 l[k].1.A) ∧ (hkcells l)[5 * k + 1]? = some (.int .i64 l[k].1.AN) ∧ (hkcells l)[5 * k + 2]? = some (.int .i64 l[k].1.B) ∧ (hkcells l)[5 * k + 3]? = some (.int .i64 l[k].1.BN) ∧ (hkcells l)[5 * k + 4]? = some l[k].2 := by
  induction l generalizing k with
  | nil => simp at hk
  | cons c l ih =>
    obtain ⟨x, y⟩ := c
    cases k with
    | zero => simp [hkcells, hkC]
    | succ k =>
      have h := ih k (by simpa using hk)
      have e : ∀ i, (hkcells ((x, y) :: l))[5 * (k + 1) + i]? = (hkcells l)[5 * k + i]? := by
        intro i
        have : hkcells ((x, y) :: l) = hkC x y ++ hkcells l := rfl
        rw [this, List.getElem?_append_right (by simp [hkC]; omega)]
        congr 1
        simp [hkC]; omega
      simp only [List.getElem_cons_succ]
      refine ⟨by rw [← (h).1]; exact e 0, by rw [← h.2.1]; exact e 1, by rw [← h.2.2.1]; exact e 2, by rw [← h.2.2.2.1]; exact e 3, by rw [← h.2.2.2.2]; exact e 4⟩
/-- a slice of hunks; p: the hunks, each with the slice of its lines -/
structure HHp (w : World) (v : Value) (p : List (Hk × Value)) : Prop where
  row : Holds w v p.length (hkcells p)
  ins : ∀ x ∈ p, HMk w x.2 x.1.ls
def HHk (w : World) (v : Value) (l : List Hk) : Prop := ∃ p : List (Hk × Value), p.map (·.1) = l ∧ HHp w v p
theorem HHp.keep {w w' : World} {v : Value} {p : List (Hk × Value)} (h : HHp w v p) {N : Nat} (hk : Below N w w') (hN : w.heap.size ≤ N) : HHp w' v p :=
  ⟨Holds.keep h.row fun k hk' => hk.block k (by omega), fun x hx => HMk.keep (h.ins x hx) hk hN⟩
theorem HHk.keep {w w' : World} {v : Value} {l : List Hk} (h : HHk w v l) {N : Nat} (hk : Below N w w') (hN : w.heap.size ≤ N) : HHk w' v l := by
  obtain ⟨p, hp, h⟩ := h
  exact ⟨p, hp, h.keep hk hN⟩
theorem HHp.at {w : World} {ao : Option Addr} {n c : Nat} {l : List (Hk × Value)} (h : HHp w (.slice ao n c) l) (h0 : 0 < l.length) : ∃ b off, ao = some ⟨b, off, none⟩ ∧ b < w.heap.size ∧
    ∀ k (hk : k < l.length), w.cell? ⟨b, off + k * 5, none⟩ = some (.int .i64 l[k].1.A) ∧ w.cell? ⟨b, off + k * 5 + 1, none⟩ = some (.int .i64 l[k].1.AN) ∧ w.cell? ⟨b, off + k * 5 + 2, none⟩ = some (.int .i64 l[k].1.B) ∧ w.cell? ⟨b, off + k * 5 + 3, none⟩ = some (.int .i64 l[k].1.BN) ∧ w.cell? ⟨b, off + k * 5 + 4, none⟩ = some l[k].2 := by
  obtain ⟨b, off, c', hv, hb, hc⟩ := Holds.at h.row (by rw [hkcells_length]; omega)
  cases hv
  refine ⟨b, off, rfl, hb, fun k hk => ?_⟩
  obtain ⟨h0, h1, h2, h3, h4⟩ := hkcells_at l k hk
  have hlen := hkcells_length l
  have e : k * 5 = 5 * k := by omega
  rw [e]
  refine ⟨?_, ?_, ?_, ?_, ?_⟩
  · have := hc (5 * k) (by omega)
    rw [← h0, this, List.getElem?_eq_getElem]
  · have := hc (5 * k + 1) (by omega)
    rw [← h1, Nat.add_assoc, this, List.getElem?_eq_getElem]
  · have := hc (5 * k + 2) (by omega)
    rw [← h2, Nat.add_assoc, this, List.getElem?_eq_getElem]
  · have := hc (5 * k + 3) (by omega)
    rw [← h3, Nat.add_assoc, this, List.getElem?_eq_getElem]
  · have := hc (5 * k + 4) (by omega)
    rw [← h4, Nat.add_assoc, this, List.getElem?_eq_getElem]
theorem HMk.form {w : World} {v : Value} {l : List Mk} (h : HMk w v l) : ∃ ao c, v = .slice ao l.length c := Holds.form h
theorem run_append_w (w : World) (T E ty : TypeId) (z : Value) (size bytes : Nat) (hT : Tryz.prog.underlying T = some (.slice E)) (hinfo : (Tryz.prog.info? E).map (fun i => (i.zero, i.size, i.bytes)) = some (some z, size, bytes)) (hz1 : z.cells.size = size) (hsz : 0 < size) (hby : bytes ≤ 64)
    (base : Nat) (v : Value) (k : Nat) (xs : List Value) (hown : w.ownsRow base E size v k xs) (vx : Value) (m : Nat) (news : List Value) (hh : Holds w vx m news) (hl : news.length = m * size)
    (h1 : ∀ u ∈ news, u.oneCell' = true) (hk : k + m ≤ 2199023255552) (hbase : base ≤ w.heap.size) :
    ∃ v' w', (Builtin.append_ #[T, T] ty #[v, vx]).run Tryz.prog w = .ok v' w' ∧ w'.ownsRow base E size v' (k + m) (xs ++ news) ∧ w.grownBy w' v.ownBlock ∧ (v'.ownBlock = v.ownBlock ∨ v'.ownBlock = some w.heap.size) := by
  obtain ⟨i0, hi0, hz0, hzs, hz2⟩ := info_parts hinfo
  rcases hh with ⟨rfl, rfl, rfl⟩ | ⟨ad, c, rfl, _, hc⟩
  · exact ⟨v, w, run_append_owned_none (P := Tryz.prog) (w := w) base T ty E i0 size hT hi0 v k xs hown, by simpa using hown, World.grownBy.refl _ _, .inl rfl⟩
  · obtain ⟨v', w', hr, h2, h3, _, h5⟩ := run_append_own_at (P := Tryz.prog) w base T ty E i0 z size bytes hT hi0 hz0 hzs hz2 hz1 hsz v k xs hown ad m c news hl hc h1 (by unfold maxLen; omega) (by
      have : (k + m) * bytes ≤ (k + m) * 64 := Nat.mul_le_mul_left _ hby
      omega) hbase
    exact ⟨v', w', hr, h2, h3, h5⟩
theorem wpList_append_w {ops : Array Oper} {rest : List Oper} {o : Oper} {a : Act} {Q : Exit → Act → World → Prop} (w : World) (hw : Region.wanted o (yielded ops a.tmps) = true) (s x : Operand) (T E : TypeId) (z : Value) (size bytes : Nat)
    (ho : o.op = .call { callee := .builtin .append, args := #[s, x], argTypes := #[T, T] }) (hT : Tryz.prog.underlying T = some (.slice E)) (hinfo : (Tryz.prog.info? E).map (fun i => (i.zero, i.size, i.bytes)) = some (some z, size, bytes)) (hz1 : z.cells.size = size) (hsz : 0 < size) (hby : bytes ≤ 64)
    (base : Nat) (v : Value) (k : Nat) (xs : List Value) (hs : a.eval s = v) (hown : w.ownsRow base E size v k xs) (vx : Value) (m : Nat) (news : List Value) (hx : a.eval x = vx) (hh : Holds w vx m news) (hl : news.length = m * size)
    (h1 : ∀ u ∈ news, u.oneCell' = true) (hk : k + m ≤ 2199023255552) (hbase : base ≤ w.heap.size)
    (h : ∀ v' w', w'.ownsRow base E size v' (k + m) (xs ++ news) → w.grownBy w' v.ownBlock → (v'.ownBlock = v.ownBlock ∨ v'.ownBlock = some w.heap.size) → wpList Tryz.prog ops Q rest (a.put o.dst v') w') : wpList Tryz.prog ops Q (o :: rest) a w := by
  refine wpList_step fun K hK => ?_
  rw [if_pos hw]
  obtain ⟨v', w', hr, h2, h3, h4⟩ := run_append_w w T E o.type z size bytes hT hinfo hz1 hsz hby base v k xs hown vx m news hh hl h1 hk hbase
  unfold Oper.wp
  simp [execOp, ho, resolve, invoke, builtin, hs, hx, hr, Result.andThen]
  exact hK _ _ (h v' w' h2 h3 h4)
theorem hnil_row (w : World) (base : Nat) (e : TypeId) (s : Nat) : w.ownsRow base e s (.slice none 0 0) 0 [] := ⟨by simp, .inl ⟨rfl, rfl⟩⟩
end Go.Proofs.YtgiojkhmkeocfaaGreatDoor

/- The reference's small functions of layer 11, walked: numbers, places, lines, the lines of a side. -/
set_option maxRecDepth 20000
namespace Go.Proofs.YtgiojkhmkeocfaaGreatDoor
open Go.RowKit

end Go.Proofs.YtgiojkhmkeocfaaGreatDoor

/- The reference's line, last of layer 11, walked. -/
set_option maxRecDepth 20000
namespace Go.Proofs.YtgiojkhmkeocfaaGreatDoor
open Go.RowKit

theorem bat (l : List UInt8) (k : Nat) (h : k < (⟨l.toArray⟩ : ByteArray).size) : (⟨l.toArray⟩ : ByteArray)[k]'h = l[k]'(h) := rfl
attribute [local go_sem] bat ByteArray.extract_mk
theorem wrap_s {n : Int} (h0 : -9223372036854775808 ≤ n) (h1 : n ≤ 9223372036854775807) : IntKind.i64.wrap n = n := by
  simp [IntKind.wrap, IntKind.bits, IntKind.signed]
  split <;> omega
end Go.Proofs.YtgiojkhmkeocfaaGreatDoor

/- The reference's fields of layer 11, walked. -/
set_option maxRecDepth 20000
namespace Go.Proofs.YtgiojkhmkeocfaaGreatDoor
open Go.RowKit

/-- a line in a box -/
def mkO (m : Mk) : Obj := .cells #[.int .u8 m.sg, .string ⟨m.tx.toArray⟩] 103
def Mx (u : World) (b : Nat) (m : Mk) : Prop := u.heap[b]? = some (mkO m)
section
variable {u u' : World} {b : Nat} {m : Mk}
theorem Mx.cells (q : Mx u b m) : u.cell? ⟨b, 0, none⟩ = some (.int .u8 m.sg) ∧ u.cell? ⟨b, 1, none⟩ = some (.string ⟨m.tx.toArray⟩) := by
  unfold Mx mkO at q
  refine ⟨?_, ?_⟩ <;> rw [Lib.cell_of_heap q] <;> rfl
theorem Mx.lt (q : Mx u b m) : b < u.heap.size := (Array.getElem?_eq_some_iff.1 q).1
theorem Mx.low (q : Mx u b m) (hg : Below u.heap.size u u') : Mx u' b m := (hg.block b q.lt).trans q
theorem Mx.new (w : World) (m : Mk) : Mx (w.alloc (mkO m)) w.heap.size m := _root_.Go.heap_alloc_new w _
end
theorem Hx.row {W : World} {b : Nat} {h : Hk} {v : Value} (q : Hx W b h v) (n : Nat) : Hx (W.drewN n) b h v := q

end Go.Proofs.YtgiojkhmkeocfaaGreatDoor

/- Steps of a region that draws its order, taken one by one where a guard says no: reads, calls by their contracts. -/
set_option maxRecDepth 20000
namespace Go.Proofs.YtgiojkhmkeocfaaGreatDoor
open Go.RowKit

theorem step_want {b : Bool} {X Y : Prop} (h : b = true) (hX : X) : if b = true then X else Y := by
  rw [if_pos h]
  exact hX
/-- an operation that reads alone, or is not wanted, from one stage of the region to the next -/
theorem go_take {P : Program} {S : World → Prop} {md : Region.Mode} {ops : Array Oper} {Q : Exit → Act → World → Prop} {fuel : Nat} {listed : Array Bool} {A : Act} {w : World}
    (i d : Nat) (op : Oper) (v : Value) (hi : ops[i]? = some op) (hd : op.dst = some d) (hs : Region.noSelect ops = true) (hf : Region.free md ops listed i = true) (hr : (Region.ready md ops listed).contains i = true)
    (hQ : ∀ c a w, Q (.panic c) (a.put op.dst v) w → Q (.panic c) a w) (hy : YieldsIf P ops S op v A) (hS : S w)
    (h : wpAnyH P md ops Q S fuel (listed.setIfInBounds i true) (A.put (some d) v) w) : wpAnyH P md ops Q S (fuel + 1) listed A w :=
  wpAnyH_take hi hs hf hr hQ hy hS (by rw [hd]; exact h)
/-- a call of whatever function value by its contract, where nothing else may come up; R: what is told of what is answered -/
theorem go_callE {P : Program} {S : World → Prop} {md : Region.Mode} {ops : Array Oper} {Q : Exit → Act → World → Prop} {fuel : Nat} {listed : Array Bool} {A : Act} {w : World}
    (i d : Nat) (op : Oper) (hi : ops[i]? = some op) (hd : op.dst = some d) (hr : Region.ready md ops listed = [i]) (hwt : Region.wanted op (yielded ops A.tmps) = true)
    (F : Nat) (x : Operand) (xs : Array Operand) (ts : Array TypeId) (ho : op.op = .call { callee := .value x, args := xs, argTypes := ts })
    (cap : Array Value) (hxv : A.eval x = .func (.func F) #[] cap) (args : Array Value) (hx : xs.map A.eval = args) (hen : ∀ args w, (callFunc F args).run P w = .ok (.enter F args) w) (R : Value → World → Prop)
    (hc : Calls P F (args ++ cap) w fun e w' => ∃ v, e = .returned v ∧ S w' ∧ R v w')
    (h : ∀ v w', S w' → R v w' → wpAnyH P md ops Q S fuel (listed.setIfInBounds i true) (A.put (some d) v) w') :
    wpAnyH P md ops Q S (fuel + 1) listed A w := by
  refine wpAnyH_ready hr (by simp) (AllReadyH.cons hi (fun K hK => ?_) AllReadyH.nil)
  refine step_want hwt ?_
  unfold Oper.wp
  have e : (execOp A.eval op).run P w = .ok (.enter F (args ++ cap)) w := by
    have h1 := hen (args ++ cap) w
    simp only [execOp, ho, resolve, invoke]
    simp only [hxv, Deferred.ofValue, Sem.run_bind, Sem.run_pure, Result.andThen_ok, hx, Array.empty_append]
    exact h1
  rw [e, Oper.upon_enter]
  refine hc.mono ?_
  rintro e w' ⟨v, rfl, hb, hR⟩
  exact hK.out _ _ hb (fun hu => by rw [hd]; exact h v w' hu hR)
/-- an operation that yields a value, whatever it does to memory, where nothing else may come up -/
theorem go_val {P : Program} {S : World → Prop} {md : Region.Mode} {ops : Array Oper} {Q : Exit → Act → World → Prop} {fuel : Nat} {listed : Array Bool} {A : Act} {w : World}
    (i d : Nat) (op : Oper) (hi : ops[i]? = some op) (hd : op.dst = some d) (hr : Region.ready md ops listed = [i]) (hwt : Region.wanted op (yielded ops A.tmps) = true)
    (v : Value) (w' : World) (he : (execOp A.eval op).run P w = .ok (.value v) w') (hS : S w')
    (h : wpAnyH P md ops Q S fuel (listed.setIfInBounds i true) (A.put (some d) v) w') :
    wpAnyH P md ops Q S (fuel + 1) listed A w := by
  refine wpAnyH_ready hr (by simp) (AllReadyH.cons hi (fun K hK => ?_) AllReadyH.nil)
  refine step_want hwt ?_
  unfold Oper.wp
  rw [he, Oper.upon_value]
  exact hK.out _ _ hS (fun _ => by rw [hd]; exact h)
/-- a store, where nothing else may come up -/
theorem go_skip {P : Program} {S : World → Prop} {md : Region.Mode} {ops : Array Oper} {Q : Exit → Act → World → Prop} {fuel : Nat} {listed : Array Bool} {A : Act} {w : World}
    (i : Nat) (op : Oper) (hi : ops[i]? = some op) (hd : op.dst = none) (hr : Region.ready md ops listed = [i]) (hwt : Region.wanted op (yielded ops A.tmps) = true)
    (w' : World) (he : (execOp A.eval op).run P w = .ok .skip w') (hS : S w')
    (h : wpAnyH P md ops Q S fuel (listed.setIfInBounds i true) A w') :
    wpAnyH P md ops Q S (fuel + 1) listed A w := by
  refine wpAnyH_ready hr (by simp) (AllReadyH.cons hi (fun K hK => ?_) AllReadyH.nil)
  refine step_want hwt ?_
  unfold Oper.wp
  rw [he, Oper.upon_skip]
  exact hK.out _ _ hS (fun _ => by rw [hd]; exact h)
/-- a number, a slice, a function value is read -/
theorem load_int {u : World} {a : Addr} {z : Int} (h : u.cell? a = some (.int .i64 z)) {op : Oper} (x : Operand) (ho : op.op = .load 3 x) {ev : Operand → Value} (hx : ev x = .pointer (some a)) :
    (execOp ev op).run Tryz.prog u = .ok (.value (.int .i64 z)) u := by
  simp only [execOp, ho, hx]
  go_simp
end Go.Proofs.YtgiojkhmkeocfaaGreatDoor

/- The reference's Check of layer 11, walked. -/
set_option maxRecDepth 20000
namespace Go.Proofs.YtgiojkhmkeocfaaGreatDoor
open Go.RowKit

/-- a hunk is read out of its box -/
theorem load_hk {u : World} {b : Nat} {h : Hk} {v : Value} (q : Hx u b h v) {op : Oper} (x : Operand) (ho : op.op = .load 59 x) {ev : Operand → Value} (hx : ev x = .pointer (some ⟨b, 0, none⟩)) :
    (execOp ev op).run Tryz.prog u = .ok (.value (hkV h v)) u := by
  have hL : (loadVar 59 ⟨b, 0, none⟩).run Tryz.prog u = .ok (hkV h v) u := run_loadVar_row u b _ _ _ _ _ q Tryz.underlying59 rfl (by kernel_rfl)
  simp only [execOp, ho, hx, Instr.loadAt, Instr.sureAddr, Sem.run_bind, Sem.run_pure, Result.andThen_ok, hL]
end Go.Proofs.YtgiojkhmkeocfaaGreatDoor

/- The reference's Order of layer 11, walked. -/
set_option maxRecDepth 20000
namespace Go.Proofs.YtgiojkhmkeocfaaGreatDoor
open Go.RowKit

/-- a hunk of a row, read -/
theorem HHp.take {w W : World} {b off n c : Nat} {p : List (Hk × Value)} (h : HHp w (.slice (some ⟨b, off, none⟩) n c) p) (hB : Below w.heap.size w W) (k : Nat) (hk : k < p.length) {x : Hk} {y : Value} (hx : p[k] = (x, y)) : (W.cell? ⟨b, off + k * 5, none⟩ = some (.int .i64 x.A) ∧ W.cell? ⟨b, off + k * 5 + 1, none⟩ = some (.int .i64 x.AN) ∧ W.cell? ⟨b, off + k * 5 + 2, none⟩ = some (.int .i64 x.B) ∧ W.cell? ⟨b, off + k * 5 + 3, none⟩ = some (.int .i64 x.BN) ∧ W.cell? ⟨b, off + k * 5 + 4, none⟩ = some y) ∧ HMk W y x.ls := by
  have h2 := h.keep hB (Nat.le_refl _)
  obtain ⟨b', off', e, _, hc⟩ := h2.at (by omega)
  cases e
  have := hc k hk
  rw [hx] at this
  refine ⟨this, ?_⟩
  have hi := h2.ins p[k] (List.getElem_mem hk)
  rw [hx] at hi
  exact hi
end Go.Proofs.YtgiojkhmkeocfaaGreatDoor

/- The reference's Same, SameHunks of layer 11, walked: hunks that are the same. -/
set_option maxRecDepth 20000
namespace Go.Proofs.YtgiojkhmkeocfaaGreatDoor
open Go.RowKit

end Go.Proofs.YtgiojkhmkeocfaaGreatDoor

/- The reference's SameHunks of layer 11, walked: rows of hunks that are the same; steps by hand. -/
set_option maxRecDepth 20000
namespace Go.Proofs.YtgiojkhmkeocfaaGreatDoor
open Go.RowKit

theorem exec_ixH {u : World} {b off n c i : Nat} (hi : i < n) {op : Oper} (x y : Operand) (ho : op.op = .indexAddr 34 x y) {ev : Operand → Value} (hx : ev x = .slice (some ⟨b, off, none⟩) n c) (hy : ev y = .int .i64 (i : Int)) :
    (execOp ev op).run Tryz.prog u = .ok (.value (.pointer (some ⟨b, off + i * 5, none⟩))) u := by
  have i1 : 0 ≤ (i : Int) := by omega
  have i2 : (i : Int) < (n : Int) := by omega
  simp only [execOp, ho, hx, hy]
  go_simp
/-- the cells of a hunk in a row -/
def HkAt (u : World) (b o : Nat) (x : Hk) (y : Value) : Prop := u.cell? ⟨b, o, none⟩ = some (.int .i64 x.A) ∧ u.cell? ⟨b, o + 1, none⟩ = some (.int .i64 x.AN) ∧ u.cell? ⟨b, o + 2, none⟩ = some (.int .i64 x.B) ∧ u.cell? ⟨b, o + 3, none⟩ = some (.int .i64 x.BN) ∧ u.cell? ⟨b, o + 4, none⟩ = some y
theorem HkAt.low {u u' : World} {b o : Nat} {x : Hk} {y : Value} (h : HkAt u b o x y) (hB : Low u u') : HkAt u' b o x y := by
  have key : ∀ (q : Addr) (z : Value), u.cell? q = some z → u'.cell? q = some z := fun q z hz => (World.cell?_of_block (w := u) (Below.block hB _ (World.block_lt_of_cell? _ _ hz))).trans hz
  exact ⟨key _ _ h.1, key _ _ h.2.1, key _ _ h.2.2.1, key _ _ h.2.2.2.1, key _ _ h.2.2.2.2⟩
theorem load_hkR {u : World} {b o : Nat} {h : Hk} {yo : Option Addr} {n yc : Nat} (q : HkAt u b o h (.slice yo n yc)) {op : Oper} (x : Operand) (ho : op.op = .load 59 x) {ev : Operand → Value} (hx : ev x = .pointer (some ⟨b, o, none⟩)) :
    (execOp ev op).run Tryz.prog u = .ok (.value (hkV h (.slice yo n yc))) u := by
  obtain ⟨d0, d1, d2, d3, d4⟩ := q
  unfold hkV
  simp only [execOp, ho, hx]
  go_simp
end Go.Proofs.YtgiojkhmkeocfaaGreatDoor

/- A row of numbers of one's own, at a known block: what is kept. -/
set_option maxRecDepth 20000
namespace Go.Proofs.YtgiojkhmkeocfaaGreatDoor
open Go.RowKit

/-- the state of the walk -/
structure Ls (w : World) (g n : Nat) (Z : List Int) (u : World) : Prop where
  low : Below w.heap.size w u
  own : u.ownsRow w.heap.size 3 1 (.slice (some ⟨g, 0, none⟩) n n) n (icells Z)
theorem Ls.drewN {w u : World} {g n : Nat} {Z : List Int} (h : Ls w g n Z u) (k : Nat) : Ls w g n Z (u.drewN k) := ⟨Below.dN h.low k, h.own⟩
theorem Ls.keep {w u u' : World} {g n : Nat} {Z : List Int} (h : Ls w g n Z u) (hb : Below u.heap.size u u') : Ls w g n Z u' := ⟨h.low.trans (hb.mono h.low.size), owns_keep h.own hb⟩
theorem Ls.set {w u : World} {g n : Nat} {Z : List Int} (h : Ls w g n Z u) (k : Nat) (m : Int) : Ls w g n (Z.set k m) (u.setCell ⟨g, k, none⟩ (.int .i64 m)) := by
  obtain ⟨p1, g1⟩ := h.own.stored k (.int .i64 m)
  have e : (icells Z).set k (.int .i64 m) = icells (Z.set k m) := by simp [icells, List.map_set]
  rw [e] at p1
  exact ⟨h.low.grown g1 h.low.size (fun j hj => owns_ge h.own (by simpa [Value.ownBlock] using hj)), p1⟩
theorem Ls.len {w u : World} {g n : Nat} {Z : List Int} (h : Ls w g n Z u) : Z.length = n := by
  have := h.own.1
  rw [icells_length, Nat.mul_one] at this
  exact this
theorem Ls.at {w u : World} {g n : Nat} {Z : List Int} (h : Ls w g n Z u) {k : Nat} {z : Int} (hz : Z[k]? = some z) : u.cell? ⟨g, k, none⟩ = some (.int .i64 z) := by
  have hl := (List.getElem?_eq_some_iff.1 hz).1
  rw [h.len] at hl
  rw [h.own.cellAt k (by omega)]
  simp [icells, hz]
theorem low_grown {w u : World} (h : Low w u) (r : Option Nat) : w.grownBy u r := ⟨Below.os h, Below.tape h, Below.output h, Below.size h, fun k hk _ => Below.block h k hk⟩
theorem grown_set (u : World) (g j : Nat) (v : Value) : u.grownBy (u.setCell ⟨g, j, none⟩ v) (some g) := ⟨rfl, rfl, rfl, (KeepsWalks.setCell u _ v).size, fun k _ hk => Below.heap_setCell _ _ _ k (fun e => hk (by rw [e]))⟩
theorem ls_other {W0 u : World} {n : Nat} {K : List Int} {G : Nat} (h : Ls W0 G n K u) {g : Nat} (hg : G ≠ g) (hw : W0.heap.size ≤ g) (j : Nat) (v : Value) : Ls W0 G n K (u.setCell ⟨g, j, none⟩ v) :=
  ⟨h.low.grown (grown_set u g j v) h.low.size (fun q hq => by cases hq; exact hw), h.own.kept (grown_set u g j v) (.inr (fun e => by simp [Value.ownBlock] at e; omega))⟩
theorem grown_new {w u : World} {r : Option Nat} (h : w.grownBy u r) {B : Nat} (hB : w.heap.size ≤ B) (j : Nat) (v : Value) : w.grownBy (u.setCell ⟨B, j, none⟩ v) r :=
  ⟨h.os, h.tape, h.output, Nat.le_trans h.size (grown_set u B j v).size, fun k hk hn => (heap_setCell_other u _ k _ (fun e => by simp at e; omega)).trans (h.block k hk hn)⟩
theorem grown_drewN {w u : World} {r : Option Nat} (h : w.grownBy u r) (k : Nat) : w.grownBy (u.drewN k) r := ⟨h.os, h.tape, h.output, h.size, h.block⟩
end Go.Proofs.YtgiojkhmkeocfaaGreatDoor

/- Hunks of one's own: a row of them, each with a row of lines of one's own; the reference's Copy, walked. -/
set_option maxRecDepth 20000
namespace Go.Proofs.YtgiojkhmkeocfaaGreatDoor
open Go.RowKit

theorem own_lt {u : World} {base : Nat} {e : TypeId} {s : Nat} {v : Value} {n : Nat} {xs : List Value} (h : u.ownsRow base e s v n xs) {g : Nat} (hg : v.ownBlock = some g) : g < u.heap.size := by
  rcases h.2 with ⟨rfl, _⟩ | ⟨b, cap, cur, rfl, _, hb, _⟩
  · cases hg
  · simp [Value.ownBlock] at hg
    subst hg
    exact (Array.getElem?_eq_some_iff.1 hb).1
theorem own_ne {u : World} {base base' : Nat} {e e' : TypeId} {s s' : Nat} {v v' : Value} {n n' : Nat} {xs xs' : List Value} (h : u.ownsRow base e s v n xs) (h' : u.ownsRow base' e' s' v' n' xs') (he : e ≠ e') {g : Nat} (hg : v.ownBlock = some g) : v'.ownBlock ≠ some g := by
  intro hg'
  rcases h.2 with ⟨rfl, _⟩ | ⟨b, cap, cur, rfl, _, hb, _⟩
  · cases hg
  · rcases h'.2 with ⟨rfl, _⟩ | ⟨b', cap', cur', rfl, _, hb', _⟩
    · cases hg'
    · simp [Value.ownBlock] at hg hg'
      subst hg hg'
      rw [hb] at hb'
      simp at hb'
      exact he hb'.2
/-- a row of hunks of one's own -/
structure Hs (w : World) (ov : Value) (P : List (Hk × Value)) (u : World) : Prop where
  low : Below w.heap.size w u
  own : u.ownsRow w.heap.size 59 5 ov P.length (hkcells P)
  ins : ∀ x ∈ P, u.ownsRow w.heap.size 103 2 x.2 x.1.ls.length (mkcells x.1.ls)
theorem Hs.nil (w : World) : Hs w (.slice none 0 0) [] w := ⟨Below.refl _ _, hnil_row _ _ _ _, fun _ h => by cases h⟩
theorem Hs.alloc {w : World} {ov : Value} {P : List (Hk × Value)} {u : World} (h : Hs w ov P u) (o : Obj) : Hs w ov P (u.alloc o) := ⟨h.low.alloc h.low.size o, h.own.alloc o, fun x hx => (h.ins x hx).alloc o⟩
theorem Hs.drewN {w : World} {ov : Value} {P : List (Hk × Value)} {u : World} (h : Hs w ov P u) (n : Nat) : Hs w ov P (u.drewN n) := ⟨Below.dN h.low n, h.own, h.ins⟩
/-- what is written lies in a block that is none of theirs -/
theorem Hs.grown {w : World} {ov : Value} {P : List (Hk × Value)} {u u' : World} (h : Hs w ov P u) {g : Option Nat} (hg : u.grownBy u' g) (hb : ∀ k, g = some k → w.heap.size ≤ k) (h1 : ∀ k, g = some k → ov.ownBlock ≠ some k) (h2 : ∀ x ∈ P, ∀ k, g = some k → x.2.ownBlock ≠ some k) : Hs w ov P u' := by
  have key : ∀ {e : TypeId} {s : Nat} {v : Value} {n : Nat} {xs : List Value}, u.ownsRow w.heap.size e s v n xs → (∀ k, g = some k → v.ownBlock ≠ some k) → u'.ownsRow w.heap.size e s v n xs := by
    intro e s v n xs ho hne
    refine ⟨ho.1, ?_⟩
    rcases ho.2 with q | ⟨b, cap, cur, rfl, q2, q3, q4⟩
    · exact .inl q
    · refine .inr ⟨b, cap, cur, rfl, q2, ?_, q4⟩
      rw [hg.block b (Array.getElem?_eq_some_iff.1 q3).1 (fun e => hne b e.symm rfl)]
      exact q3
  exact ⟨h.low.grown hg h.low.size (fun k hk => hb k hk), key h.own h1, fun x hx => key (h.ins x hx) (h2 x hx)⟩
theorem Hs.lt {w : World} {ov : Value} {P : List (Hk × Value)} {u : World} (h : Hs w ov P u) : (∀ k, ov.ownBlock = some k → k < u.heap.size) ∧ ∀ x ∈ P, ∀ k, x.2.ownBlock = some k → k < u.heap.size := ⟨fun _ hk => own_lt h.own hk, fun x hx _ hk => own_lt (h.ins x hx) hk⟩
/-- one that is new, a box or a row, is none of theirs -/
theorem Hs.fresh {w : World} {ov : Value} {P : List (Hk × Value)} {u u1 u' : World} (h : Hs w ov P u) (h1 : Hs w ov P u1) {k : Nat} (hk : u.heap.size ≤ k) (hg : u1.grownBy u' (some k)) : Hs w ov P u' := by
  have hl := h.lt
  have hs := h.low.size
  refine h1.grown hg (fun j hj => by cases hj; omega) (fun j hj => by cases hj; intro e; have := hl.1 _ e; omega) (fun x hx j hj => by cases hj; intro e; have := hl.2 x hx _ e; omega)
/-- what it holds -/
theorem Hs.holds {w : World} {ov : Value} {P : List (Hk × Value)} {u : World} (h : Hs w ov P u) : HHp u ov P := ⟨holds_of h.own, fun x hx => holds_of (h.ins x hx)⟩
/-- a hunk more -/
theorem Hs.more {w : World} {ov : Value} {P : List (Hk × Value)} {u u' : World} (h : Hs w ov P u) {x : Hk} {y ov' : Value} (hy : u.ownsRow w.heap.size 103 2 y x.ls.length (mkcells x.ls)) (hg : u.grownBy u' ov.ownBlock) (ho : u'.ownsRow w.heap.size 59 5 ov' (P.length + 1) (hkcells P ++ hkC x y)) : Hs w ov' (P ++ [(x, y)]) u' := by
  have key : ∀ {v : Value} {n : Nat} {xs : List Value}, u.ownsRow w.heap.size 103 2 v n xs → u'.ownsRow w.heap.size 103 2 v n xs := by
    intro v n xs hv
    refine ⟨hv.1, ?_⟩
    rcases hv.2 with q | ⟨b, cap, cur, rfl, q2, q3, q4⟩
    · exact .inl q
    · refine .inr ⟨b, cap, cur, rfl, q2, ?_, q4⟩
      rw [hg.block b (Array.getElem?_eq_some_iff.1 q3).1 (fun e => own_ne h.own hv (by decide) e.symm rfl)]
      exact q3
  refine ⟨h.low.grown hg h.low.size (fun j hj => owns_ge h.own hj), ?_, fun z hz => ?_⟩
  · rw [hkcells_append, List.length_append]
    have e : hkcells [(x, y)] = hkC x y := by simp [hkcells]
    rw [e]
    exact ho
  · rcases List.mem_append.1 hz with hz | hz
    · exact key (h.ins z hz)
    · rw [List.mem_singleton.1 hz]
      exact key hy
/-- one hunk, as a new row of one -/
theorem one_row (w : World) (x : Hk) (y : Value) : Holds (w.alloc (hkO x y)) (.slice (some ⟨w.heap.size, 0, none⟩) 1 1) 1 (hkC x y) := new_holds w #[.int .i64 x.A, .int .i64 x.AN, .int .i64 x.B, .int .i64 x.BN, y] 59 1 1 (by decide)
theorem hkC_one (x : Hk) {o : Option Addr} {n c : Nat} : ∀ u ∈ hkC x (.slice o n c), u.oneCell' = true := by
  intro u hu
  simp only [hkC, List.mem_cons, List.not_mem_nil, or_false] at hu
  rcases hu with rfl | rfl | rfl | rfl | rfl <;> rfl
theorem Hx.setl {u : World} {b : Nat} {h : Hk} {v : Value} (q : Hx u b h v) (z : Value) : Hx (u.setCell ⟨b, 4, none⟩ z) b h z := heap_setCell_same u b 4 _ _ z q

end Go.Proofs.YtgiojkhmkeocfaaGreatDoor

/- The code's small functions of layer 11, walked: the lines of a side, numbers, places, signs. -/
set_option maxRecDepth 20000
namespace Go.Proofs.YtgiojkhmkeocfaaGreatDoor
open Go.RowKit

/-- which sign a side has, and which it has not -/
def Sd (sg no : Int) : Prop := sg = 45 ∧ no = 43 ∨ sg = 43 ∧ no = 45
theorem sd_iff {sg no : Int} (h : Sd sg no) (s : Int) : (s ≠ no ∧ okS s = true) ↔ (s = 32 ∨ s = sg) := by
  simp only [okS, Bool.or_eq_true, decide_eq_true_eq]
  rcases h with ⟨rfl, rfl⟩ | ⟨rfl, rfl⟩ <;> omega
theorem pk_take {sg no : Int} (h : Sd sg no) {s : Int} (hs : s = 32 ∨ s = sg) {out R : List (List UInt8)} {tx : List UInt8} {l : List Mk} (hI : out ++ (if s ≠ no ∧ okS s = true then tx :: pkL no l else pkL no l) = R) : out ++ [tx] ++ pkL no l = R := by
  rw [if_pos ((sd_iff h s).2 hs)] at hI
  rw [← hI]
  simp
theorem pk_pass {sg no : Int} (h : Sd sg no) {s : Int} (h1 : s ≠ 32) (h2 : s ≠ sg) {out R : List (List UInt8)} {tx : List UInt8} {l : List Mk} (hI : out ++ (if s ≠ no ∧ okS s = true then tx :: pkL no l else pkL no l) = R) : out ++ pkL no l = R := by
  rw [if_neg (fun q => by rcases (sd_iff h s).1 q with q | q <;> contradiction)] at hI
  exact hI

theorem owns_less {u : World} {base base' : Nat} {e : TypeId} {s : Nat} {v : Value} {n : Nat} {xs : List Value} (h : u.ownsRow base e s v n xs) (hb : base' ≤ base) : u.ownsRow base' e s v n xs := by
  refine ⟨h.1, ?_⟩
  rcases h.2 with q | ⟨b, cap, cur, rfl, q2, q3, q4⟩
  · exact .inl q
  · exact .inr ⟨b, cap, cur, rfl, Nat.le_trans hb q2, q3, q4⟩

set_option maxHeartbeats 2000000 in
theorem hside_o (h : Hk) (v : Value) (sd no : Int) (HSD : Hid (Sd sd no)) (w : World) (hv : HMk w v h.ls) (hl : h.ls.length ≤ 1099511627776) (R : List (List UInt8)) (HR : Hid (pkL no h.ls = R)) : Calls Tryz.prog 83 #[hkV h v, .int .u8 sd] w fun e w' => ∃ v', e = .returned v' ∧ w'.ownsRow w.heap.size 9 1 v' R.length (scells R) ∧ Below w.heap.size w w' := by
  obtain ⟨A, AN, B, BN, ls⟩ := h
  dsimp only at hv hl HR
  obtain ⟨lo, lc, rfl⟩ := HMk.form hv
  have hx := Hx.new w ⟨A, AN, B, BN, ls⟩ (.slice lo ls.length lc)
  have hBl : Below w.heap.size w (w.alloc (hkO ⟨A, AN, B, BN, ls⟩ (.slice lo ls.length lc))) := (Below.refl _ w).alloc (Nat.le_refl _) _
  have hv1 := HMk.keep hv hBl (Nat.le_refl _)
  obtain ⟨_, _, _, _, x4⟩ := hx.cells
  have hW : w.alloc (Obj.cells #[Value.int IntKind.i64 A, Value.int IntKind.i64 AN, Value.int IntKind.i64 B, Value.int IntKind.i64 BN, .slice lo ls.length lc] 59) = w.alloc (hkO ⟨A, AN, B, BN, ls⟩ (.slice lo ls.length lc)) := rfl
  have HSZ : Hid ((w.alloc (hkO ⟨A, AN, B, BN, ls⟩ (.slice lo ls.length lc))).heap.size = w.heap.size + 1) := (by show _ = _; simp)
  unfold hkV
  dsimp only
  clear hv hx
  generalize w.alloc (hkO ⟨A, AN, B, BN, ls⟩ (.slice lo ls.length lc)) = W at *
  go_enter Tryz.func83, Tryz.ntmps83
  go_wp2
  clear hW x4
  go_loopw [5, 11] (fun ov iv wr => ∃ (k : Nat) (out : List (List UInt8)), k ≤ ls.length ∧ out.length ≤ k ∧ iv = .int .i64 (k : Int) ∧ (∃ oo oc, ov = .slice oo out.length oc) ∧ St W 9 1 ov out.length (scells out) wr ∧ Hid (out ++ pkL no (ls.drop k) = R)) (fun _ iv _ => ls.length - (intOf iv).toNat)
  case atStart => exact ⟨0, [], Nat.zero_le _, Nat.le_refl _, by go_num, ⟨_, _, rfl⟩, ⟨hnil_row _ _ _ _, Below.refl _ _⟩, HR⟩
  case round =>
    obtain ⟨k, out, hk, hok, rfl, ⟨oo, oc, rfl⟩, hS, HI⟩ := hrel
    by_cases hlt : k < ls.length
    · obtain ⟨b, off, rfl, hb, _⟩ := HMk.at hv1 (by omega)
      obtain ⟨m, hm⟩ : ∃ m, ls[k] = m := ⟨_, rfl⟩
      obtain ⟨c0, c1⟩ := Low.mk hS.low hv1 k hlt hm
      have HI2 : Hid (out ++ (if m.sg ≠ no ∧ okS m.sg = true then m.tx :: pkL no (ls.drop (k + 1)) else pkL no (ls.drop (k + 1))) = R) := (by
        show _ = _
        rw [← HI.out, List.drop_eq_getElem_cons hlt, hm]
        rfl)
      have i1 : 0 ≤ (k : Int) := by omega
      have i2 : (k : Int) < (ls.length : Int) := by omega
      obtain ⟨m0, m1⟩ := (Mx.new wr m).cells
      have hS1 := st_alloc (mkO m) hS
      have hsS := hS.low.size
      have HSM : Hid ((wr.alloc (mkO m)).heap.size = wr.heap.size + 1) := (by show _ = _; simp)
      have hW2 : wr.alloc (Obj.cells #[Value.int IntKind.u8 m.sg, Value.string ⟨m.tx.toArray⟩] 103) = wr.alloc (mkO m) := rfl
      clear HI hm HR
      go_upto_region 5 with fail
      obtain ⟨sg, tx⟩ := m
      dsimp only at m0 m1 c0 c1 HI2 hW2
      generalize hwr1 : wr.alloc (mkO ⟨sg, tx⟩) = wr1 at *
      clear hW2
      have hs1 := hS1.low.size
      by_cases h1 : sg = 32
      · subst h1
        have HI3 : Hid (out ++ [tx] ++ pkL no (ls.drop (k + 1)) = R) := pk_take HSD.out (.inl rfl) HI2.out
        clear HI2
        go_wp2_with (at_builtin; refine wpList_append_h _ (by kernel_rfl) (.tmp 24) (.tmp 27) 23 9 (.string ⟨#[]⟩) 1 16 rfl Tryz.underlying23 infoStr rfl (by decide) (by decide) W.heap.size _ _ _ rfl (hS1.own.alloc _) _ 1 (scells [tx]) rfl (new_holds _ _ _ _ _ (by decide)) rfl (scells_one _) (by omega) (by simp; omega) ?_)
        intro v2 w2 hown2 hgrow2
        have hB2 : Below W.heap.size W w2 := (hS1.low.alloc hS1.low.size _).grown hgrow2 (by simp; omega) (fun _ hj => owns_ge hS1.own hj)
        rw [← scells_append] at hown2
        obtain ⟨oo2, oc2, rfl⟩ := (holds_of hown2).form
        clear hgrow2
        go_wp2
        exact ⟨⟨k + 1, out ++ [tx], by omega, by simp; omega, by go_num, ⟨_, _, by rw [List.length_append]; rfl⟩, ⟨by rw [List.length_append]; exact hown2, hB2⟩, HI3⟩, by simp [intOf]; omega⟩
      · have e1 : (sg == 32) = false := by simpa using h1
        by_cases h2 : sg = sd
        · subst h2
          have HI3 : Hid (out ++ [tx] ++ pkL no (ls.drop (k + 1)) = R) := pk_take HSD.out (.inr rfl) HI2.out
          clear HI2 h1
          go_wp2_with (at_builtin; refine wpList_append_h _ (by kernel_rfl) (.tmp 24) (.tmp 27) 23 9 (.string ⟨#[]⟩) 1 16 rfl Tryz.underlying23 infoStr rfl (by decide) (by decide) W.heap.size _ _ _ rfl (hS1.own.alloc _) _ 1 (scells [tx]) rfl (new_holds _ _ _ _ _ (by decide)) rfl (scells_one _) (by omega) (by simp; omega) ?_)
          intro v2 w2 hown2 hgrow2
          have hB2 : Below W.heap.size W w2 := (hS1.low.alloc hS1.low.size _).grown hgrow2 (by simp; omega) (fun _ hj => owns_ge hS1.own hj)
          rw [← scells_append] at hown2
          obtain ⟨oo2, oc2, rfl⟩ := (holds_of hown2).form
          clear hgrow2
          go_wp2
          exact ⟨⟨k + 1, out ++ [tx], by omega, by simp; omega, by go_num, ⟨_, _, by rw [List.length_append]; rfl⟩, ⟨by rw [List.length_append]; exact hown2, hB2⟩, HI3⟩, by simp [intOf]; omega⟩
        · have e2 : (sg == sd) = false := by simpa using h2
          have HI3 : Hid (out ++ pkL no (ls.drop (k + 1)) = R) := pk_pass HSD.out h1 h2 HI2.out
          clear HI2 h1 h2
          go_wp2
          exact ⟨⟨k + 1, out, by omega, by omega, by go_num, ⟨_, _, rfl⟩, hS1, HI3⟩, by simp [intOf]; omega⟩
    · have HI3 : Hid (out = R) := (by
        have h := HI.out
        rw [List.drop_of_length_le (by omega)] at h
        show out = R
        simpa [pkL] using h)
      clear HI
      have hend : decide ((k : Int) < (ls.length : Int)) = false := decide_eq_false (by omega)
      go_wp2
      go_ret
      refine ⟨_, rfl, ?_, hBl.trans (hS.low.mono (by have := HSZ.out; omega))⟩
      rw [← HI3.out]
      exact owns_less hS.own (by have := HSZ.out; omega)
theorem hOld_o (h : Hk) (v : Value) (w : World) (hv : HMk w v h.ls) (hl : h.ls.length ≤ 1099511627776) (R : List (List UInt8)) (HR : Hid (oldL h = R)) : Calls Tryz.prog 38 #[hkV h v] w fun e w' => ∃ v', e = .returned v' ∧ w'.ownsRow w.heap.size 9 1 v' R.length (scells R) ∧ Below w.heap.size w w' := by
  have hBl : Below w.heap.size w (w.alloc (hkO h v)) := (Below.refl _ w).alloc (Nat.le_refl _) _
  have hv1 := HMk.keep hv hBl (Nat.le_refl _)
  obtain ⟨c0, c1, c2, c3, c4⟩ := (Hx.new w h v).cells
  unfold hkO at c0 c1 c2 c3 c4 hBl hv1
  obtain ⟨lo, lc, rfl⟩ := HMk.form hv
  have e : hkV h (.slice lo h.ls.length lc) = .agg #[.int .i64 h.A, .int .i64 h.AN, .int .i64 h.B, .int .i64 h.BN, .slice lo h.ls.length lc] := rfl
  rw [e]
  go_enter Tryz.func38, Tryz.ntmps38
  go_wp2_with fail
  refine (hside_o h _ 45 43 (.inl ⟨rfl, rfl⟩) _ hv1 hl R HR).mono ?_
  rintro e w1 ⟨v1, rfl, hv1, hB1⟩
  obtain ⟨vo, vc, rfl⟩ := Holds.form (holds_of hv1)
  go_wp2
  go_ret
  exact ⟨_, rfl, owns_less hv1 hBl.size, hBl.trans (hB1.mono hBl.size)⟩
theorem hNew_o (h : Hk) (v : Value) (w : World) (hv : HMk w v h.ls) (hl : h.ls.length ≤ 1099511627776) (R : List (List UInt8)) (HR : Hid (newL h = R)) : Calls Tryz.prog 40 #[hkV h v] w fun e w' => ∃ v', e = .returned v' ∧ w'.ownsRow w.heap.size 9 1 v' R.length (scells R) ∧ Below w.heap.size w w' := by
  have hBl : Below w.heap.size w (w.alloc (hkO h v)) := (Below.refl _ w).alloc (Nat.le_refl _) _
  have hv1 := HMk.keep hv hBl (Nat.le_refl _)
  obtain ⟨c0, c1, c2, c3, c4⟩ := (Hx.new w h v).cells
  unfold hkO at c0 c1 c2 c3 c4 hBl hv1
  obtain ⟨lo, lc, rfl⟩ := HMk.form hv
  have e : hkV h (.slice lo h.ls.length lc) = .agg #[.int .i64 h.A, .int .i64 h.AN, .int .i64 h.B, .int .i64 h.BN, .slice lo h.ls.length lc] := rfl
  rw [e]
  go_enter Tryz.func40, Tryz.ntmps40
  go_wp2_with fail
  refine (hside_o h _ 43 45 (.inr ⟨rfl, rfl⟩) _ hv1 hl R HR).mono ?_
  rintro e w1 ⟨v1, rfl, hv1, hB1⟩
  obtain ⟨vo, vc, rfl⟩ := Holds.form (holds_of hv1)
  go_wp2
  go_ret
  exact ⟨_, rfl, owns_less hv1 hBl.size, hBl.trans (hB1.mono hBl.size)⟩
theorem hnumberOf_f (a n : Int) (w : World) (h1 : -4611686018427387904 ≤ a) (h2 : a ≤ 4611686018427387904) (r : Int) (HR : Hid ((if 0 < n then a + 1 else a) = r)) : Calls Tryz.prog 88 #[.int .i64 a, .int .i64 n] w fun e w' => e = .returned (.int .i64 r) ∧ w' = w := by
  have hr := HR.out
  clear HR
  go_enter Tryz.func88, Tryz.ntmps88
  by_cases h : 0 < n
  · rw [if_pos h] at hr
    subst hr
    go_wp2
    go_ret
    exact ⟨by go_num, rfl⟩
  · rw [if_neg h] at hr
    subst hr
    have e : decide (0 < n) = false := decide_eq_false h
    go_wp2
    go_ret
    exact ⟨rfl, rfl⟩
end Go.Proofs.YtgiojkhmkeocfaaGreatDoor

/- The reference's Invert of layer 11, walked. -/
set_option maxRecDepth 20000
namespace Go.Proofs.YtgiojkhmkeocfaaGreatDoor
open Go.RowKit

/-- two operations that yield values, whichever comes first -/
theorem go_two {P : Program} {S : World → Prop} {md : Region.Mode} {ops : Array Oper} {Q : Exit → Act → World → Prop} {fuel : Nat} {listed : Array Bool} {A : Act} {w : World}
    (i d : Nat) (op : Oper) (j e : Nat) (oq : Oper) (hi : ops[i]? = some op) (hd : op.dst = some d) (hj : ops[j]? = some oq) (he : oq.dst = some e) (hr : Region.ready md ops listed = [i, j]) (hwt : Region.wanted op (yielded ops A.tmps) = true) (hwq : Region.wanted oq (yielded ops A.tmps) = true)
    (vp : Value) (wp : World) (hp : (execOp A.eval op).run P w = .ok (.value vp) wp) (hSp : S wp)
    (vq : Value) (wq : World) (hq : (execOp A.eval oq).run P w = .ok (.value vq) wq) (hSq : S wq)
    (h : wpAnyH P md ops Q S fuel (listed.setIfInBounds i true) (A.put (some d) vp) wp)
    (h2 : wpAnyH P md ops Q S fuel (listed.setIfInBounds j true) (A.put (some e) vq) wq) :
    wpAnyH P md ops Q S (fuel + 1) listed A w := by
  refine wpAnyH_ready hr (by simp) (AllReadyH.cons hi (fun K hK => ?_) (AllReadyH.cons hj (fun K hK => ?_) AllReadyH.nil))
  · refine step_want hwt ?_
    unfold Oper.wp
    rw [hp, Oper.upon_value]
    exact hK.out _ _ hSp (fun _ => by rw [hd]; exact h)
  · refine step_want hwq ?_
    unfold Oper.wp
    rw [hq, Oper.upon_value]
    exact hK.out _ _ hSq (fun _ => by rw [he]; exact h2)
/-- append, run by itself -/
theorem exec_app {w w' : World} {T : TypeId} {v vx v' : Value} {op : Oper} (x y : Operand) (ho : op.op = .call { callee := .builtin .append, args := #[x, y], argTypes := #[T, T] }) {ev : Operand → Value} (hx : ev x = v) (hy : ev y = vx) (hr : (Builtin.append_ #[T, T] op.type #[v, vx]).run Tryz.prog w = .ok v' w') :
    (execOp ev op).run Tryz.prog w = .ok (.value v') w' := by
  simp [execOp, ho, resolve, invoke, builtin, hx, hy, hr, Result.andThen]
/-- lines that grow in a hunk's box, and lines that wait: all else as it was -/
structure Iv (w : World) (q : Hk) (ov : Value) (x : List Mk) (av : Value) (y : List Mk) (u : World) : Prop where
  low : Below w.heap.size w u
  box : Hx u w.heap.size q ov
  own : u.ownsRow (w.heap.size + 1) 103 2 ov x.length (mkcells x)
  add : u.ownsRow (w.heap.size + 1) 103 2 av y.length (mkcells y)
  ne : ∀ g, ov.ownBlock = some g → av.ownBlock ≠ some g
section
variable {w : World} {q : Hk} {ov ov' av av' : Value} {x x' y y' : List Mk} {u u' : World}
theorem Iv.alloc (h : Iv w q ov x av y u) (o : Obj) : Iv w q ov x av y (u.alloc o) :=
  ⟨h.low.alloc h.low.size o, h.box.low ((Below.refl _ u).alloc (Nat.le_refl _) o), h.own.alloc o, h.add.alloc o, h.ne⟩
theorem Iv.drewN (h : Iv w q ov x av y u) (n : Nat) : Iv w q ov x av y (u.drewN n) := ⟨Below.dN h.low n, h.box, h.own, h.add, h.ne⟩
theorem own_kept {e : TypeId} {s B : Nat} {v : Value} {n : Nat} {xs : List Value} (ho : u.ownsRow B e s v n xs) {g : Option Nat} (hg : u.grownBy u' g) (hne : ∀ k, g = some k → v.ownBlock ≠ some k) : u'.ownsRow B e s v n xs := by
  refine ⟨ho.1, ?_⟩
  rcases ho.2 with q | ⟨b, cap, cur, rfl, q2, q3, q4⟩
  · exact .inl q
  · refine .inr ⟨b, cap, cur, rfl, q2, ?_, q4⟩
    rw [hg.block b (Array.getElem?_eq_some_iff.1 q3).1 (fun e => hne b e.symm rfl)]
    exact q3
/-- lines more -/
theorem Iv.grow (h : Iv w q ov x av y u) (hg : u.grownBy u' ov.ownBlock) (ho : u'.ownsRow (w.heap.size + 1) 103 2 ov' x'.length (mkcells x')) (hb : ov'.ownBlock = ov.ownBlock ∨ ov'.ownBlock = some u.heap.size) : Hx u' w.heap.size q ov ∧ Iv w q ov' x' av y (u'.setCell ⟨w.heap.size, 4, none⟩ ov') := by
  have hbx : Hx u' w.heap.size q ov := h.box.keep hg (fun e => by have := owns_ge h.own e.symm; omega)
  have hadd := own_kept h.add hg (fun k hk => h.ne k hk)
  have hs := grown_set u' w.heap.size 4 ov'
  have hlow : Below w.heap.size w u' := h.low.grown hg h.low.size (fun j hj => by have := owns_ge h.own hj; omega)
  refine ⟨hbx, hlow.grown hs hlow.size (fun j hj => by cases hj; exact Nat.le_refl _), hbx.setl ov', own_kept ho hs ?_, own_kept hadd hs ?_, ?_⟩
  · intro k hk e
    cases hk
    have := owns_ge ho e
    omega
  · intro k hk e
    cases hk
    have := owns_ge h.add e
    omega
  · intro g hg' e
    rcases hb with hb | hb
    · rw [hb] at hg'
      exact h.ne g hg' e
    · rw [hb] at hg'
      cases hg'
      have := own_lt h.add e
      omega
/-- lines more that wait -/
theorem Iv.wait (h : Iv w q ov x av y u) (hg : u.grownBy u' av.ownBlock) (ho : u'.ownsRow (w.heap.size + 1) 103 2 av' y'.length (mkcells y')) (hb : av'.ownBlock = av.ownBlock ∨ av'.ownBlock = some u.heap.size) : Iv w q ov x av' y' u' := by
  refine ⟨h.low.grown hg h.low.size (fun j hj => by have := owns_ge h.add hj; omega), h.box.keep hg (fun e => by have := owns_ge h.add e.symm; omega), own_kept h.own hg (fun k hk e => h.ne k e hk), ho, ?_⟩
  intro g hg' e
  rcases hb with hb | hb
  · rw [hb] at e
    exact h.ne g hg' e
  · rw [hb] at e
    cases e
    have := own_lt h.own hg'
    omega
/-- lines more, and none that wait -/
theorem Iv.last (h : Iv w q ov x av y u) (hg : u.grownBy u' ov.ownBlock) (ho : u'.ownsRow (w.heap.size + 1) 103 2 ov' x'.length (mkcells x')) : Hx u' w.heap.size q ov ∧ Iv w q ov' x' (.slice none 0 0) [] (u'.setCell ⟨w.heap.size, 4, none⟩ ov') := by
  have hbx : Hx u' w.heap.size q ov := h.box.keep hg (fun e => by have := owns_ge h.own e.symm; omega)
  have hs := grown_set u' w.heap.size 4 ov'
  have hlow : Below w.heap.size w u' := h.low.grown hg h.low.size (fun j hj => by have := owns_ge h.own hj; omega)
  refine ⟨hbx, hlow.grown hs hlow.size (fun j hj => by cases hj; exact Nat.le_refl _), hbx.setl ov', own_kept ho hs ?_, hnil_row _ _ _ _, fun g _ e => by cases e⟩
  intro k hk e
  cases hk
  have := owns_ge ho e
  omega
theorem Hx.put5 {b : Nat} {h : Hk} {v : Value} (p : Hx u b h v) (z0 z1 z2 z3 z4 : Value) : (((((u.setCell ⟨b, 0, none⟩ z0).setCell ⟨b, 1, none⟩ z1).setCell ⟨b, 2, none⟩ z2).setCell ⟨b, 3, none⟩ z3).setCell ⟨b, 4, none⟩ z4).heap[b]? = some (.cells #[z0, z1, z2, z3, z4] 59 (0, 0)) := by
  have s1 := heap_setCell_same u b 0 _ _ z0 p
  have s2 := heap_setCell_same _ b 1 _ _ z1 s1
  have s3 := heap_setCell_same _ b 2 _ _ z2 s2
  have s4 := heap_setCell_same _ b 3 _ _ z3 s3
  exact heap_setCell_same _ b 4 _ _ z4 s4
theorem own_base {e : TypeId} {s B B' : Nat} {v : Value} {n : Nat} {xs : List Value} (ho : u.ownsRow B e s v n xs) (hB : B' ≤ B) : u.ownsRow B' e s v n xs := by
  refine ⟨ho.1, ?_⟩
  rcases ho.2 with q | ⟨b, cap, cur, rfl, q2, q3, q4⟩
  · exact .inl q
  · exact .inr ⟨b, cap, cur, rfl, by omega, q3, q4⟩
theorem Iv.none (h : Iv w q ov x av y u) : Iv w q ov x (.slice none 0 0) [] u := ⟨h.low, h.box, h.own, hnil_row _ _ _ _, fun g _ e => by cases e⟩
end
theorem mk_row (w : World) (m : Mk) : Holds (w.alloc (mkO m)) (.slice (some ⟨w.heap.size, 0, none⟩) 1 1) 1 (mkcells [m]) := new_holds w #[.int .u8 m.sg, .string ⟨m.tx.toArray⟩] 103 1 1 (by decide)

end Go.Proofs.YtgiojkhmkeocfaaGreatDoor

/- The reference's count of layer 11, walked. -/
set_option maxRecDepth 20000
namespace Go.Proofs.YtgiojkhmkeocfaaGreatDoor
open Go.RowKit

section
variable {u : World} {b : Nat} {A AN B BN : Int} {ls : List Mk} {v : Value}
theorem Hx.setA (q : Hx u b ⟨A, AN, B, BN, ls⟩ v) (z : Int) : Hx (u.setCell ⟨b, 0, none⟩ (.int .i64 z)) b ⟨z, AN, B, BN, ls⟩ v := heap_setCell_same u b 0 _ _ _ q
theorem Hx.setAN (q : Hx u b ⟨A, AN, B, BN, ls⟩ v) (z : Int) : Hx (u.setCell ⟨b, 1, none⟩ (.int .i64 z)) b ⟨A, z, B, BN, ls⟩ v := heap_setCell_same u b 1 _ _ _ q
theorem Hx.setB (q : Hx u b ⟨A, AN, B, BN, ls⟩ v) (z : Int) : Hx (u.setCell ⟨b, 2, none⟩ (.int .i64 z)) b ⟨A, AN, z, BN, ls⟩ v := heap_setCell_same u b 2 _ _ _ q
theorem Hx.setBN (q : Hx u b ⟨A, AN, B, BN, ls⟩ v) (z : Int) : Hx (u.setCell ⟨b, 3, none⟩ (.int .i64 z)) b ⟨A, AN, B, z, ls⟩ v := heap_setCell_same u b 3 _ _ _ q
theorem Hx.other (q : Hx u b ⟨A, AN, B, BN, ls⟩ v) {g : Nat} (hg : b ≠ g) (j : Nat) (z : Value) : Hx (u.setCell ⟨g, j, none⟩ z) b ⟨A, AN, B, BN, ls⟩ v := q.keep (grown_set u g j z) (fun e => hg (Option.some.inj e))
end

end Go.Proofs.YtgiojkhmkeocfaaGreatDoor

/- The reference's one of layer 11, walked. -/
set_option maxRecDepth 20000
namespace Go.Proofs.YtgiojkhmkeocfaaGreatDoor
open Go.RowKit

/-- a change in a box -/
def chO (c : Ch) : Obj := .cells #[.int .i64 c.A, .int .i64 c.AN, .int .i64 c.B, .int .i64 c.BN] 64
def Cx (u : World) (b : Nat) (c : Ch) : Prop := u.heap[b]? = some (chO c)
section
variable {u u' : World} {b : Nat} {c : Ch}
theorem Cx.cells (q : Cx u b c) : u.cell? ⟨b, 0, none⟩ = some (.int .i64 c.A) ∧ u.cell? ⟨b, 1, none⟩ = some (.int .i64 c.AN) ∧ u.cell? ⟨b, 2, none⟩ = some (.int .i64 c.B) ∧ u.cell? ⟨b, 3, none⟩ = some (.int .i64 c.BN) := by
  unfold Cx chO at q
  refine ⟨?_, ?_, ?_, ?_⟩ <;> rw [Lib.cell_of_heap q] <;> rfl
theorem Cx.lt (q : Cx u b c) : b < u.heap.size := (Array.getElem?_eq_some_iff.1 q).1
theorem Cx.low (q : Cx u b c) (hg : Below u.heap.size u u') : Cx u' b c := (hg.block b q.lt).trans q
theorem Cx.new (w : World) (c : Ch) : Cx (w.alloc (chO c)) w.heap.size c := _root_.Go.heap_alloc_new w _
end

/-- the cells of a change in a row -/
def ChAt (u : World) (b o : Nat) (x : Ch) : Prop := u.cell? ⟨b, o, none⟩ = some (.int .i64 x.A) ∧ u.cell? ⟨b, o + 1, none⟩ = some (.int .i64 x.AN) ∧ u.cell? ⟨b, o + 2, none⟩ = some (.int .i64 x.B) ∧ u.cell? ⟨b, o + 3, none⟩ = some (.int .i64 x.BN)
theorem hcell_keep {u u' : World} (hB : Low u u') {q : Addr} {z : Value} (hz : u.cell? q = some z) : u'.cell? q = some z := (World.cell?_of_block (w := u) (Below.block hB _ (World.block_lt_of_cell? _ _ hz))).trans hz
theorem ChAt.low {u u' : World} {b o : Nat} {x : Ch} (h : ChAt u b o x) (hB : Low u u') : ChAt u' b o x := ⟨hcell_keep hB h.1, hcell_keep hB h.2.1, hcell_keep hB h.2.2.1, hcell_keep hB h.2.2.2⟩
theorem load_chR {u : World} {b o : Nat} {h : Ch} (q : ChAt u b o h) {op : Oper} (x : Operand) (ho : op.op = .load 64 x) {ev : Operand → Value} (hx : ev x = .pointer (some ⟨b, o, none⟩)) :
    (execOp ev op).run Tryz.prog u = .ok (.value (chV h)) u := by
  obtain ⟨d0, d1, d2, d3⟩ := q
  unfold chV
  simp only [execOp, ho, hx]
  go_simp
theorem Cx.keep {u u' : World} {b : Nat} {c : Ch} (q : Cx u b c) {g : Option Nat} (hg : u.grownBy u' g) (hr : some b ≠ g) : Cx u' b c := (hg.block b q.lt hr).trans q

theorem mks_cons (s : Int) (t : List UInt8) (x : List (List UInt8)) : mks s (t :: x) = ⟨s, t⟩ :: mks s x := rfl

end Go.Proofs.YtgiojkhmkeocfaaGreatDoor

/- The reference's Changes of layer 11, walked. -/
set_option maxRecDepth 20000
namespace Go.Proofs.YtgiojkhmkeocfaaGreatDoor
open Go.RowKit

/-- how many lines hunks have -/
def tot : List Hk → Nat
  | [] => 0
  | h :: l => h.ls.length + tot l
/-- a row that is not empty: where it lies -/
theorem hown_at {u : World} {B : Nat} {e : TypeId} {s : Nat} {oo : Option Addr} {n oc : Nat} {xs : List Value} (h : u.ownsRow B e s (.slice oo (n + 1) oc) (n + 1) xs) : ∃ g, oo = some ⟨g, 0, none⟩ := by
  rcases h.2 with ⟨_, h0⟩ | ⟨g, cap, cur, e, _⟩
  · omega
  · cases e
    exact ⟨g, rfl⟩
end Go.Proofs.YtgiojkhmkeocfaaGreatDoor

/- The reference's Group of layer 11, walked. -/
set_option maxRecDepth 20000
namespace Go.Proofs.YtgiojkhmkeocfaaGreatDoor
open Go.RowKit

theorem infoCs : (Tryz.prog.info? 25).map (fun i => (i.zero, i.size, i.bytes)) = some (some (.slice none 0 0), 1, 24) := by kernel_rfl
/-- groups of one's own: a row of rows of changes -/
structure Gr (w : World) (ov : Value) (G : List (List Ch × Value)) (u : World) : Prop where
  low : Below w.heap.size w u
  own : u.ownsRow w.heap.size 25 1 ov G.length (G.map (·.2))
  ins : ∀ x ∈ G, u.ownsRow w.heap.size 64 4 x.2 x.1.length (chcells x.1)
/-- the last row is none of the others -/
def Lst (G : List (List Ch × Value)) : Prop := ∀ P x, G = P ++ [x] → ∀ y ∈ P, ∀ b, x.2.ownBlock = some b → y.2.ownBlock ≠ some b
section
variable {w u u' : World} {ov ov' : Value} {G P : List (List Ch × Value)}
theorem Gr.nil (w : World) : Gr w (.slice none 0 0) [] w := ⟨Below.refl _ _, hnil_row _ _ _ _, fun _ h => by cases h⟩
theorem Gr.alloc (h : Gr w ov G u) (o : Obj) : Gr w ov G (u.alloc o) := ⟨h.low.alloc h.low.size o, h.own.alloc o, fun x hx => (h.ins x hx).alloc o⟩
theorem Gr.drewN (h : Gr w ov G u) (n : Nat) : Gr w ov G (u.drewN n) := ⟨Below.dN h.low n, h.own, h.ins⟩
theorem Gr.keep (h : Gr w ov G u) (hk : Below u.heap.size u u') : Gr w ov G u' := ⟨h.low.trans (hk.mono h.low.size), owns_keep h.own hk, fun x hx => owns_keep (h.ins x hx) hk⟩
/-- a group more -/
theorem Gr.more (h : Gr w ov G u) {g : List Ch} {gv : Value} (hgv : u.ownsRow w.heap.size 64 4 gv g.length (chcells g)) (hg : u.grownBy u' ov.ownBlock) (ho : u'.ownsRow w.heap.size 25 1 ov' (G.length + 1) (G.map (·.2) ++ [gv])) : Gr w ov' (G ++ [(g, gv)]) u' := by
  have key : ∀ {v : Value} {n : Nat} {xs : List Value}, u.ownsRow w.heap.size 64 4 v n xs → u'.ownsRow w.heap.size 64 4 v n xs := fun hv => own_kept hv hg (fun k hk => own_ne h.own hv (by decide) hk)
  refine ⟨h.low.grown hg h.low.size (fun j hj => owns_ge h.own hj), ?_, fun z hz => ?_⟩
  · rw [List.length_append, List.map_append]
    exact ho
  · rcases List.mem_append.1 hz with hz | hz
    · exact key (h.ins z hz)
    · rw [List.mem_singleton.1 hz]
      exact key hgv
/-- the last group, longer: its row has grown, and the row of rows names it -/
theorem Gr.last {g g' : List Ch} {gv gv' : Value} (h : Gr w ov (P ++ [(g, gv)]) u) (hL : Lst (P ++ [(g, gv)])) (hg : u.grownBy u' gv.ownBlock) (ho : u'.ownsRow w.heap.size 64 4 gv' g'.length (chcells g')) (hb : gv'.ownBlock = gv.ownBlock ∨ gv'.ownBlock = some u.heap.size) :
    ∃ q cap, ov = .slice (some ⟨q, 0, none⟩) (P.length + 1) cap ∧ u'.cell? ⟨q, P.length, none⟩ = some gv ∧ u'.frozen? ⟨q, P.length, none⟩ = false ∧ Gr w ov (P ++ [(g', gv')]) (u'.setCell ⟨q, P.length, none⟩ gv') ∧ Lst (P ++ [(g', gv')]) := by
  have hown := h.own
  rw [List.length_append, List.length_singleton] at hown
  have hgl := h.ins (g, gv) (by simp)
  obtain ⟨oo, oc, hov⟩ := (holds_of hown).form
  subst hov
  obtain ⟨q, rfl⟩ := hown_at hown
  have hown' := own_kept hown hg (fun k hk => own_ne hgl hown (by decide) hk)
  have hst := hown'.stored P.length gv'
  have hset : ((P ++ [(g, gv)]).map (·.2)).set P.length gv' = (P ++ [(g', gv')]).map (·.2) := by simp
  rw [hset] at hst
  have hlow : Below w.heap.size w u' := h.low.grown hg h.low.size (fun j hj => owns_ge hgl hj)
  refine ⟨q, oc, rfl, ?_, hown'.frozenAt _, ⟨hlow.grown hst.2 hlow.size (fun j hj => by cases hj; exact owns_ge hown rfl), ?_, ?_⟩, ?_⟩
  · rw [hown'.cellAt P.length (by omega)]
    simp
  · rw [List.length_append, List.length_singleton]
    exact hst.1
  · intro x hx
    have hqx : ∀ {v : Value} {n : Nat} {xs : List Value}, u'.ownsRow w.heap.size 64 4 v n xs → (u'.setCell ⟨q, P.length, none⟩ gv').ownsRow w.heap.size 64 4 v n xs := fun hv => own_kept hv hst.2 (fun k hk => own_ne hown' hv (by decide) hk)
    rcases List.mem_append.1 hx with hx | hx
    · exact hqx (own_kept (h.ins x (List.mem_append_left _ hx)) hg (fun k hk => hL P (g, gv) rfl x hx k hk))
    · rw [List.mem_singleton.1 hx]
      exact hqx ho
  · intro P' x' he y hy b' hb'
    have he2 := List.append_inj' he rfl
    obtain ⟨rfl, hx'⟩ := he2
    have hx2 : (g', gv') = x' := by simpa using hx'
    subst hx2
    rcases hb with hb | hb
    · rw [hb] at hb'
      exact hL P (g, gv) rfl y hy b' hb'
    · rw [hb] at hb'
      cases hb'
      intro e
      have := own_lt (h.ins y (List.mem_append_left _ hy)) e
      omega
end
theorem right_nums {fl : Bool} {p q n m : Int} {l : List Ch} (h : Right fl p q n m l) : ∀ c ∈ l, numB c = true := by
  induction l generalizing fl p q with
  | nil => intro c hc; cases hc
  | cons d l ih =>
    intro c hc
    rcases List.mem_cons.1 hc with rfl | hc
    · exact h.1.1
    · exact ih h.2 c hc
theorem load_chs {u : World} {a : Addr} {o : Option Addr} {n c : Nat} (h : u.cell? a = some (.slice o n c)) {op : Oper} (x : Operand) (ho : op.op = .load 25 x) {ev : Operand → Value} (hx : ev x = .pointer (some a)) :
    (execOp ev op).run Tryz.prog u = .ok (.value (.slice o n c)) u := by
  simp only [execOp, ho, hx]
  go_simp
theorem exec_storeG {u : World} {b j : Nat} (hf : u.frozen? ⟨b, j, none⟩ = false) {o n c} (hc : u.cell? ⟨b, j, none⟩ = some (.slice o n c)) {o' n' c'} {op : Oper} (x y : Operand) (ho : op.op = .store 25 x y) {ev : Operand → Value} (hx : ev x = .pointer (some ⟨b, j, none⟩)) (hy : ev y = .slice o' n' c') :
    (execOp ev op).run Tryz.prog u = .ok .skip (u.setCell ⟨b, j, none⟩ (.slice o' n' c')) := by
  simp only [execOp, ho, hx, hy]
  go_simp
theorem ch_row (w : World) (c : Ch) : Holds (w.alloc (chO c)) (.slice (some ⟨w.heap.size, 0, none⟩) 1 1) 1 (chcells [c]) := new_holds w #[.int .i64 c.A, .int .i64 c.AN, .int .i64 c.B, .int .i64 c.BN] 64 1 1 (by decide)
theorem map_split {G : List (List Ch × Value)} {gs : List (List Ch)} {g : List Ch} (h : G.map (·.1) = gs ++ [g]) : ∃ P gv, G = P ++ [(g, gv)] ∧ P.map (·.1) = gs := by
  rcases List.eq_nil_or_concat G with rfl | ⟨P, x, rfl⟩
  · have := congrArg List.length h
    simp at this
  · rw [List.concat_eq_append] at h ⊢
    rw [List.map_append] at h
    have h2 := List.append_inj' h rfl
    obtain ⟨gx, gv⟩ := x
    have h3 : gx = g := by simpa using h2.2
    subst h3
    exact ⟨P, gv, rfl, h2.1⟩

/-- is a change near the one ahead of it? -/
def nrB (ctx : Int) (l : List Ch) (i : Nat) (d : Ch) : Bool := match (l.take i).getLast? with
  | none => false
  | some c => decide (d.A - c.A - c.AN ≤ 2 * ctx)
theorem last_take {l : List Ch} {j : Nat} (hj : j < l.length) : (l.take (j + 1)).getLast? = some l[j] := by
  rw [List.take_succ_eq_append_getElem hj, List.getLast?_append]
  simp
theorem grp_take {ctx : Int} {l : List Ch} {i : Nat} (hi : i < l.length) : (nrB ctx l i l[i] = true → ∃ gs gl, grp ctx (l.take i) = gs ++ [gl] ∧ grp ctx (l.take (i + 1)) = gs ++ [gl ++ [l[i]]]) ∧ (nrB ctx l i l[i] = false → grp ctx (l.take (i + 1)) = grp ctx (l.take i) ++ [[l[i]]]) := by
  cases i with
  | zero =>
    refine ⟨fun h => by simp [nrB] at h, fun _ => ?_⟩
    rw [List.take_succ_eq_append_getElem hi]
    rfl
  | succ j =>
    have e1 : l.take (j + 1) = l.take j ++ [l[j]] := List.take_succ_eq_append_getElem (by omega)
    have e2 : l.take (j + 1 + 1) = l.take j ++ [l[j]] ++ [l[j + 1]] := by rw [List.take_succ_eq_append_getElem hi, e1]
    obtain ⟨gs, g, h1, h2⟩ := grp_snoc ctx (l.take j) l[j] l[j + 1]
    have hn : nrB ctx l (j + 1) l[j + 1] = decide (l[j + 1].A - l[j].A - l[j].AN ≤ 2 * ctx) := by
      unfold nrB
      rw [last_take (by omega)]
    rw [hn, e1, e2, h1, h2]
    refine ⟨fun h => ?_, fun h => ?_⟩
    · rw [if_pos (of_decide_eq_true h)]
      exact ⟨gs, g ++ [l[j]], rfl, rfl⟩
    · rw [if_neg (of_decide_eq_false h)]
end Go.Proofs.YtgiojkhmkeocfaaGreatDoor
