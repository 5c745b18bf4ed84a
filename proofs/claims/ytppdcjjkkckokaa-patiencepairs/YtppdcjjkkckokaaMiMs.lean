/-
  The table of lengths is filled: measure, walked.
-/
import Derived.Test.YtppdcjjkkckokaaMiLen
import Derived.Sort.AtCall
namespace Go.Proofs.Ytppdcjjkkckokaa
open Go.RowKit

theorem idx_inj {W i j i' j' : Nat} (hj : j < W) (hj' : j' < W) (h : i * W + j = i' * W + j') : i = i' ∧ j = j' := by
  have h1 : (i * W + j) / W = i := by rw [Nat.mul_comm, Nat.mul_add_div (by omega), Nat.div_eq_of_lt hj, Nat.add_zero]
  have h2 : (i' * W + j') / W = i' := by rw [Nat.mul_comm, Nat.mul_add_div (by omega), Nat.div_eq_of_lt hj', Nat.add_zero]
  have h3 : i = i' := by rw [← h1, ← h2, h]
  subst h3
  exact ⟨rfl, by omega⟩
theorem idx_lt {W i j n : Nat} (hj : j < W) (hi : i ≤ n) : i * W + j < (n + 1) * W := by
  have : i * W ≤ n * W := Nat.mul_le_mul_right _ hi
  rw [Nat.succ_mul]
  omega
/-- which lengths stand in the table: those of the rows below row k, and of row k from place c on -/
def Done (x y : List Int) (k c : Nat) (Y : List Value) : Prop := ∀ i j, i ≤ x.length → j ≤ y.length → (k < i ∨ (i = k ∧ c ≤ j) ∨ j = y.length) → Y[i * (y.length + 1) + j]? = some (.int .i16 ((ln x y i j : Nat) : Int))
theorem Done.start (x y : List Int) (N : Nat) (hN : N = (x.length + 1) * (y.length + 1)) : Done x y x.length 0 (List.replicate N (.int .i16 0)) := by
  intro i j hi hj h
  rw [ln_end x y i j (by omega), List.getElem?_replicate, if_pos (by rw [hN]; exact idx_lt (by omega) hi)]
  rfl
theorem Done.next {x y : List Int} {i : Nat} {Y : List Value} (h : Done x y (i + 1) 0 Y) : Done x y i y.length Y := by
  intro i' j' hi hj hc
  exact h i' j' hi hj (by omega)
theorem Done.set {x y : List Int} {i j : Nat} {Y : List Value} (h : Done x y i (j + 1) Y) (hi : i ≤ x.length) (hj : j < y.length) (hY : Y.length = (x.length + 1) * (y.length + 1)) (p : Nat) (hp : p = i * (y.length + 1) + j) (v : Int) (hv : v = ((ln x y i j : Nat) : Int)) : Done x y i j (Y.set p (.int .i16 v)) := by
  intro i' j' hi' hj' hc
  subst hp hv
  by_cases e : i' * (y.length + 1) + j' = i * (y.length + 1) + j
  · obtain ⟨rfl, rfl⟩ := idx_inj (by omega) (by omega) e
    rw [List.getElem?_set_self]
    rw [hY]
    exact idx_lt (by omega) hi
  · rw [List.getElem?_set_ne (fun h => e h.symm)]
    refine h i' j' hi' hj' ?_
    rcases hc with hc | ⟨rfl, hc⟩ | hc
    · exact .inl hc
    · exact .inr (.inl ⟨rfl, by by_cases q : j' = j; · subst q; exact absurd rfl e
                                · omega⟩)
    · exact .inr (.inr hc)
/-- the variable that holds the table, and all else as it was -/
structure Bx (b W g N : Nat) (wr w : World) : Prop where
  box : w.heap[b]? = some (Obj.cells #[.int .i64 (W : Int), .slice (some ⟨g, 0, none⟩) N N] 66 (0, 0))
  low : Below wr.heap.size wr w
theorem Bx.cells {b W g N : Nat} {wr w : World} (h : Bx b W g N wr w) : w.cell? ⟨b, 0, none⟩ = some (.int .i64 (W : Int)) ∧ w.cell? ⟨b, 1, none⟩ = some (.slice (some ⟨g, 0, none⟩) N N) := ⟨by rw [Lib.cell_of_heap h.box]; rfl, by rw [Lib.cell_of_heap h.box]; rfl⟩
theorem bx_drew (b W g N : Nat) (wr w : World) : Bx b W g N wr w.drew ↔ Bx b W g N wr w := ⟨fun h => ⟨h.box, ⟨h.low.os, h.low.tape, h.low.output, h.low.size, h.low.block⟩⟩, fun h => ⟨h.box, Below.dN h.low 1⟩⟩
theorem Bx.keep {b W g N : Nat} {wr w w' : World} (h : Bx b W g N wr w) (hb : Below w.heap.size w w') : Bx b W g N wr w' := ⟨(hb.block b (Array.getElem?_eq_some_iff.1 h.box).1).trans h.box, h.low.trans (hb.mono h.low.size)⟩
theorem bx_stay {P : Program} {f : FuncId} {args : Array Value} {v : Value} {w : World} (h : Calls P f args w fun e w' => e = .returned v ∧ Below w.heap.size w w') (b W g N : Nat) (wr : World) (hS : Bx b W g N wr w) :
    Calls P f args w fun e w' => e = .returned v ∧ w'.cell? ⟨b, 0, none⟩ = some (.int .i64 (W : Int)) ∧ w'.cell? ⟨b, 1, none⟩ = some (.slice (some ⟨g, 0, none⟩) N N) ∧ Bx b W g N wr w' := by
  refine h.mono ?_
  rintro e w' ⟨rfl, hb⟩
  have hS' := hS.keep hb
  exact ⟨rfl, hS'.cells.1, hS'.cells.2, hS'⟩
attribute [local simp] bx_drew

theorem run_make16 (N : Nat) (hN : N ≤ 1099511627776) (W : World) :
    (Instr.makeSlice 64 (.int .i64 (N : Int)) (.int .i64 (N : Int))).run Try.prog W = .ok (.slice (some ⟨W.heap.size, 0, none⟩) N N) (W.alloc (.cells (madeCells #[.int .i16 0] N) 88)) := by
  obtain ⟨i0, hi, hz0, hzs, hz2⟩ := info_parts info16
  have h1 : i0.bytes * N ≤ 2 * 1099511627776 := by rw [hz2]; exact Nat.mul_le_mul_left _ hN
  have hr := run_make (P := Try.prog) W 64 88 i0 _ Try.underlying64 hi hz0 .i64 .i64 (N : Int) (N : Int) (by omega) (Int.le_refl _) (by
    have : ((i0.bytes * N : Nat) : Int) ≤ 281474976710656 := by omega
    rwa [Int.natCast_mul] at this) (by omega)
  simpa [hzs, Value.cells] using hr
theorem made16 (N : Nat) : (madeCells #[.int .i16 0] N).toList = List.replicate N (.int .i16 0) := by
  apply List.ext_getElem
  · simp [madeCells]
  · intro i h1 h2
    simp [madeCells, Nat.mod_one]

theorem set_fst {W : World} {b : Nat} {t : TypeId} {a0 a1 : Value} (h : W.heap[b]? = some (Obj.cells #[a0, a1] t (0, 0))) (v : Value) : (W.setCell ⟨b, 0, none⟩ v).heap[b]? = some (Obj.cells #[v, a1] t (0, 0)) := by
  obtain ⟨hlt, hk⟩ := Array.getElem?_eq_some_iff.1 h
  show (W.heap.modify b _)[b]? = _
  rw [Array.getElem?_eq_getElem (by rw [Array.size_modify]; exact hlt), Array.getElem_modify_self, hk]
  rfl
theorem set_snd {W : World} {b : Nat} {t : TypeId} {a0 a1 : Value} (h : W.heap[b]? = some (Obj.cells #[a0, a1] t (0, 0))) (v : Value) : (W.setCell ⟨b, 1, none⟩ v).heap[b]? = some (Obj.cells #[a0, v] t (0, 0)) := by
  obtain ⟨hlt, hk⟩ := Array.getElem?_eq_some_iff.1 h
  show (W.heap.modify b _)[b]? = _
  rw [Array.getElem?_eq_getElem (by rw [Array.size_modify]; exact hlt), Array.getElem_modify_self, hk]
  rfl
theorem grownBy_set1 (W : World) (b : Nat) (v : Value) : W.grownBy (W.setCell ⟨b, 1, none⟩ v) (some b) :=
  ⟨rfl, rfl, rfl, by show W.heap.size ≤ (W.heap.modify b _).size; simp, fun i hi hne => by
    show (W.heap.modify b _)[i]? = _
    rw [Array.getElem?_modify, if_neg (fun e => hne (by rw [e]))]⟩
/-- the state of the walk: the answer's variable, the table, the variable that holds it -/
structure Ms (w : World) (M N : Nat) (Y : List Value) (wr : World) : Prop where
  low : Below w.heap.size w wr
  res : wr.heap[w.heap.size]? = some (Obj.cells #[Value.int IntKind.i64 0, Value.slice none 0 0] 66 (0, 0))
  own : wr.ownsRow w.heap.size 88 1 (.slice (some ⟨w.heap.size + 1, 0, none⟩) N N) N Y
  box : wr.heap[w.heap.size + 1 + 1]? = some (Obj.cells #[.int .i64 (M : Int), .slice (some ⟨w.heap.size + 1, 0, none⟩) N N] 66 (0, 0))
theorem Ms.keep {w : World} {M N : Nat} {Y : List Value} {wr w' : World} (h : Ms w M N Y wr) (hb : Below wr.heap.size wr w') : Ms w M N Y w' :=
  ⟨h.low.trans (hb.mono h.low.size), (hb.block _ (Array.getElem?_eq_some_iff.1 h.res).1).trans h.res, owns_keep h.own hb, (hb.block _ (Array.getElem?_eq_some_iff.1 h.box).1).trans h.box⟩
theorem Ms.bx {w : World} {M N : Nat} {Y : List Value} {wr : World} (h : Ms w M N Y wr) : Bx (w.heap.size + 1 + 1) M (w.heap.size + 1) N wr wr := ⟨h.box, Below.refl _ _⟩
theorem Ms.store {w : World} {M N : Nat} {Y : List Value} {wr : World} (h : Ms w M N Y wr) (p : Nat) (v : Value) : Ms w M N (Y.set p v) (wr.setCell ⟨w.heap.size + 1, p, none⟩ v) := by
  obtain ⟨p1, g1⟩ := h.own.stored p v
  refine ⟨h.low.grown g1 h.low.size (fun j hj => by cases hj; omega), ?_, p1, ?_⟩
  · exact (g1.block _ (Array.getElem?_eq_some_iff.1 h.res).1 (fun e => by have := Option.some.inj e; omega)).trans h.res
  · exact (g1.block _ (Array.getElem?_eq_some_iff.1 h.box).1 (fun e => by have := Option.some.inj e; omega)).trans h.box
theorem Ms.drewN {w : World} {M N : Nat} {Y : List Value} {wr : World} (h : Ms w M N Y wr) (n : Nat) : Ms w M N Y (wr.drewN n) := ⟨Below.dN h.low n, h.res, h.own, h.box⟩
/-- a length that stands in the table -/
theorem Ms.at {w : World} {M N : Nat} {Y : List Value} {wr : World} (h : Ms w M N Y wr) {x y : List Int} {k c i j p : Nat} (hd : Done x y k c Y) (hM : M = y.length + 1) (hN : N = (x.length + 1) * M) (hi : i ≤ x.length) (hj : j ≤ y.length) (hc : k < i ∨ (i = k ∧ c ≤ j) ∨ j = y.length) (hp : p = i * M) : wr.cell? ⟨w.heap.size + 1, p + j, none⟩ = some (.int .i16 ((ln x y i j : Nat) : Int)) := by
  have := h.own.cellAt (p + j) (by rw [hp, hN, Nat.mul_one]; exact idx_lt (by omega) hi)
  rw [this, hp, hM]
  exact hd i j hi hj hc

set_option maxRecDepth 10000 in
set_option maxHeartbeats 4000000 in
theorem measure_f (x y : List Int) (vx vy : Value) (w : World) (hx : HI w vx x) (hy : HI w vy y) (hxl : x.length ≤ 4096) (hyl : y.length ≤ 4096) (N M : Nat) (hM : Hid (M = y.length + 1)) (hN : Hid (N = (x.length + 1) * M)) :
    Calls Try.prog 40 #[vx, vy] w fun e w' => ∃ g Y, e = .returned (tabV M g N) ∧ w'.ownsRow w.heap.size 88 1 (.slice (some ⟨g, 0, none⟩) N N) N Y ∧ Done x y 0 0 Y ∧ Below w.heap.size w w' := by
  obtain ⟨xo, xc, rfl⟩ := Holds.form hx
  obtain ⟨yo, yc, rfl⟩ := Holds.form hy
  have hNb : N ≤ 4097 * 4097 := by rw [hN.out, hM.out]; exact Nat.mul_le_mul (by omega) (by omega)
  have hMb : M ≤ 4097 := by rw [hM.out]; omega
  have hmk := run_make16 N (by omega)
  have hmul : ((x.length : Int) + 1) * (M : Int) = (N : Int) := by rw [hN.out]; simp
  have hMi : (y.length : Int) + 1 = (M : Int) := by rw [hM.out]; simp
  have hrow := World.ownsRow_lit (base := w.heap.size) (e := 88) (size := 1) (w.alloc (Obj.cells #[Value.int IntKind.i64 0, Value.slice none 0 0] 66)) (madeCells #[Value.int IntKind.i16 0] N) N (by simp) (by unfold maxLen; omega) (by rw [size_madeCells]; omega)
  rw [made16, World.size_alloc] at hrow
  go_enter Try.func40, Try.ntmps40
  go_wp2
  go_loopw [7] (fun iv wr => ∃ (k : Nat) (z : Int) (Y : List Value), k ≤ x.length ∧ iv = .int .i64 z ∧ z + 1 = k ∧ Ms w M N Y wr ∧ Hid (Done x y k 0 Y)) (fun iv _ => (intOf iv + 1).toNat)
  case atStart =>
    refine ⟨x.length, (x.length : Int) - 1, _, Nat.le_refl _, by go_num, by omega, ⟨?_, ?_, ?_, ?_⟩, Done.start x y N (by rw [hN.out, hM.out])⟩
    · exact (((Below.refl _ w).alloc (Nat.le_refl _) _).alloc (by simp) _).alloc (by simp; omega) _
    · exact (Below.heap_alloc _ _ _ (by simp; omega)).trans ((Below.heap_alloc _ _ _ (by simp)).trans (_root_.Go.heap_alloc_new w _))
    · exact hrow.alloc _
    · have := _root_.Go.heap_alloc_new ((w.alloc (Obj.cells #[Value.int IntKind.i64 0, Value.slice none 0 0] 66)).alloc (Obj.cells (madeCells #[Value.int IntKind.i16 0] N) 88)) (Obj.cells #[Value.int IntKind.i64 (M : Int), Value.slice (some ⟨w.heap.size + 1, 0, none⟩) N N] 66)
      rw [World.size_alloc, World.size_alloc] at this
      exact this
  case round =>
    obtain ⟨k, z, Y, hk, rfl, hz, hS, hD⟩ := hrel
    have HMI : Hid ((y.length : Int) + 1 = (M : Int)) := hMi
    clear hMi hmul hmk hrow
    cases k with
    | zero =>
      obtain rfl : z = -1 := by omega
      have d0 := hS.bx.cells.1
      have d1 := hS.bx.cells.2
      have g0 : wr.cell? ⟨w.heap.size, 0, none⟩ = some (.int .i64 0) := by rw [Lib.cell_of_heap hS.res]; rfl
      have g1 : wr.cell? ⟨w.heap.size, 1, none⟩ = some (.slice none 0 0) := by rw [Lib.cell_of_heap hS.res]; rfl
      have f0 : wr.frozen? ⟨w.heap.size, 0, none⟩ = false := Lib.frozen_of_heap hS.res 0
      have f1 : wr.frozen? ⟨w.heap.size, 1, none⟩ = false := Lib.frozen_of_heap hS.res 1
      go_wp2
      have q1 := set_snd (set_fst hS.res (Value.int IntKind.i64 (M : Int))) (Value.slice (some ⟨w.heap.size + 1, 0, none⟩) N N)
      have G1 := grownBy_setCell' wr w.heap.size (Value.int IntKind.i64 (M : Int))
      have hG : ∀ u : World, Ms w M N Y wr → wr.grownBy u (some w.heap.size) → u.ownsRow w.heap.size 88 1 (.slice (some ⟨w.heap.size + 1, 0, none⟩) N N) N Y ∧ Below w.heap.size w u := fun u h g => ⟨h.own.kept g (.inr (by simp [Value.ownBlock])), h.low.grown g h.low.size (fun j hj => by cases hj; exact Nat.le_refl _)⟩
      refine bodyPost_ret (v := tabV M (w.heap.size + 1) N) ?_ rfl ⟨w.heap.size + 1, Y, rfl, ?_, hD.out, ?_⟩
      · exact results_cell_row rfl _ _ w.heap.size 66 #[Value.int IntKind.i64 (M : Int), Value.slice (some ⟨w.heap.size + 1, 0, none⟩) N N] (0, 0) _ rfl q1 Try.underlying66 rfl (by kernel_rfl)
      · exact (hG _ hS (G1.trans (grownBy_set1 _ _ _))).1
      · exact (hG _ hS (G1.trans (grownBy_set1 _ _ _))).2
    | succ i =>
      obtain rfl : z = (i : Int) := by omega
      clear hz
      have hX := hS.bx
      obtain ⟨c0, c1⟩ := hX.cells
      obtain ⟨p, hp⟩ : ∃ p, p = i * M := ⟨_, rfl⟩
      obtain ⟨q, hq⟩ : ∃ q, q = p + M := ⟨_, rfl⟩
      have hpi : (i : Int) * (M : Int) = (p : Int) := by rw [hp]; simp
      have hqi : ((i : Int) + 1) * (M : Int) = (q : Int) := by rw [hq, Int.add_mul, hpi]; simp
      have hM0 : 0 < M := by rw [hM.out]; omega
      have hqN : q ≤ N := by
        rw [hq, hp, hN.out]
        have := Nat.mul_le_mul_right M (show i + 1 ≤ x.length + 1 by omega)
        rw [Nat.succ_mul] at this
        exact this
      have hqN2 : q + M ≤ N := by
        rw [hq, hp, hN.out]
        have := Nat.mul_le_mul_right M (show i + 2 ≤ x.length + 1 by omega)
        rw [Nat.succ_mul, Nat.succ_mul] at this
        exact this
      have hq2 : ((i : Int) + 1 + 1) * (M : Int) = ((q + M : Nat) : Int) := by rw [Int.add_mul, hqi]; simp
      have hw1 : IntKind.i64.wrap ((i : Int) + 1) = (i : Int) + 1 := by rw [IntKind.wrap_i64]; omega
      have HP : Hid (p = i * M) := hp
      have HQ : Hid (q = p + M) := hq
      clear hp hq
      go_wp2_with fail
      go_region_held3 (fun w' => w'.cell? ⟨w.heap.size + 1 + 1, 0, none⟩ = some (.int .i64 (M : Int)) ∧ w'.cell? ⟨w.heap.size + 1 + 1, 1, none⟩ = some (.slice (some ⟨w.heap.size + 1, 0, none⟩) N N) ∧ Bx (w.heap.size + 1 + 1) M (w.heap.size + 1) N wr w') (go_keep)
        (first | (go_at_call_has 57 (Value.int IntKind.i64 (i : Int)); refine (bx_stay (row_f M (w.heap.size + 1) N p q M (by have := HQ.out; omega) (i : Int) _ hpi hqi (by have := HQ.out; omega) hqN (by have := HQ.out; omega) (by omega) (by omega) (by omega)) (w.heap.size + 1 + 1) M (w.heap.size + 1) N wr (by first | assumption | (rw [bx_drew]; assumption))).mono ?_; rintro e w' ⟨rfl, e0, e1, hbS⟩) | (go_at_call_has 57 (Value.int IntKind.i64 ((i : Int) + 1)); refine (bx_stay (row_f M (w.heap.size + 1) N q (q + M) M (by omega) ((i : Int) + 1) _ hqi hq2 (by omega) hqN2 (by omega) (by omega) (by omega) (by omega)) (w.heap.size + 1 + 1) M (w.heap.size + 1) N wr (by first | assumption | (rw [bx_drew]; assumption))).mono ?_; rintro e w' ⟨rfl, e0, e1, hbS⟩))
      have hS1 := hS.keep hbS.low
      have HD := hD.out.next
      clear hD hw1 hpi hqi hq2 hX c0 c1 e0 e1
      go_wp2
      go_loopw [10] (fun jv wi => ∃ (c : Nat) (z : Int) (Y' : List Value), c ≤ y.length ∧ jv = .int .i64 z ∧ z + 1 = c ∧ Ms w M N Y' wi ∧ Hid (Done x y i c Y')) (fun jv _ => (intOf jv + 1).toNat)
      case atStart => exact ⟨y.length, (y.length : Int) - 1, Y, Nat.le_refl _, by go_num, by omega, hS1, HD⟩
      case round =>
        obtain ⟨c, z, Y', hc, rfl, hz, hS2, hD2⟩ := hrel
        cases c with
        | zero =>
          obtain rfl : z = -1 := by omega
          go_wp2
          go_roundw
          case rel => exact ⟨i, (i : Int) - 1, Y', by omega, by go_num, by omega, hS2, hD2⟩
          case measure => simp [intOf]
        | succ j =>
          obtain rfl : z = (j : Int) := by omega
          clear hz
          obtain ⟨bx, ox, rfl, _, hcx⟩ := HI.at (HI.keep hx hS2.low (Nat.le_refl _)) (by omega)
          obtain ⟨by', oy, rfl, _, hcy⟩ := HI.at (HI.keep hy hS2.low (Nat.le_refl _)) (by omega)
          have d1 := hcx i (by omega)
          have d2 := hcy j (by omega)
          have hln := ln_step x y i j (by omega) (by omega)
          obtain ⟨xi, hxi⟩ : ∃ z, x[i] = z := ⟨_, rfl⟩
          obtain ⟨yj, hyj⟩ : ∃ z, y[j] = z := ⟨_, rfl⟩
          rw [hxi] at d1 hln
          rw [hyj] at d2 hln
          clear hcx hcy hxi hyj
          have r1 := hS2.at hD2.out hM.out hN.out (i := i + 1) (j := j + 1) (p := q) (by omega) (by omega) (by omega) (by rw [HQ.out, HP.out, Nat.succ_mul])
          have r2 := hS2.at hD2.out hM.out hN.out (i := i + 1) (j := j) (p := q) (by omega) (by omega) (by omega) (by rw [HQ.out, HP.out, Nat.succ_mul])
          have r3 := hS2.at hD2.out hM.out hN.out (i := i) (j := j + 1) (p := p) (by omega) (by omega) (by omega) HP.out
          have HLN : Hid (ln x y i j = if xi = yj then ln x y (i + 1) (j + 1) + 1 else max (ln x y (i + 1) j) (ln x y i (j + 1))) := hln
          have b1 := ln_le x y (i + 1) (j + 1)
          have b2 := ln_le x y (i + 1) j
          have b3 := ln_le x y i (j + 1)
          clear hln
          have i1 : 0 ≤ (i : Int) := by omega
          have i2 : (i : Int) < (x.length : Int) := by omega
          have i3 : 0 ≤ (j : Int) := by omega
          have i4 : (j : Int) < (y.length : Int) := by omega
          have hMy : M = y.length + 1 := hM.out
          have i5 : (j : Int) < (M : Int) := by omega
          have i6 : (j : Int) + 1 < (M : Int) := by omega
          clear hMy
          have hpN : p + j < N := by have := HQ.out; have := hM.out; omega
          have hYl : Y'.length = N := by rw [hS2.own.1, Nat.mul_one]
          have f0 := hS2.own.frozenAt (p + j)
          have y0 := hS2.own.cellAt (p + j) (by omega)
          rw [List.getElem?_eq_getElem (by omega)] at y0
          obtain ⟨z0, hz0⟩ : ∃ z, Y'[p + j]'(by omega) = z := ⟨_, rfl⟩
          rw [hz0] at y0
          clear hz0
          have HYL : Hid (Y'.length = (x.length + 1) * (y.length + 1)) := (by show _ = _; rw [hYl, hN.out, hM.out])
          clear hYl
          have HPJ : Hid (p + j = i * (y.length + 1) + j) := (by show _ = _; rw [HP.out, hM.out])
          by_cases hxy : xi = yj
          · have HL : Hid (ln x y i j = ln x y (i + 1) (j + 1) + 1) := (by show _ = _; rw [HLN.out, if_pos hxy])
            clear HLN r2 r3 b2 b3
            generalize ln x y (i + 1) (j + 1) = a1 at *
            go_wp2_with fail
            go_quiet (fail)
            go_wp2
            go_roundw
            case rel => exact ⟨j, (j : Int) - 1, _, by omega, by go_num, by omega, (hS2.drewN _).store (p + j) (.int .i16 ((a1 : Int) + 1)), hD2.out.set (by omega) (by omega) HYL.out (p + j) HPJ.out ((a1 : Int) + 1) (by rw [HL.out]; simp)⟩
            case measure => simp [intOf]
          · have HL : Hid (ln x y i j = max (ln x y (i + 1) j) (ln x y i (j + 1))) := (by show _ = _; rw [HLN.out, if_neg hxy])
            clear HLN r1 b1
            have hxy' : decide (xi = yj) = false := decide_eq_false hxy
            generalize ln x y (i + 1) j = a1 at *
            generalize ln x y i (j + 1) = a2 at *
            go_wp2_with fail
            go_quiet (fail)
            go_wp2_with fail
            go_region
            go_wp2
            exact ⟨⟨j, (j : Int) - 1, _, by omega, by go_num, by omega, (hS2.drewN _).store (p + j) _, hD2.out.set (by omega) (by omega) HYL.out (p + j) HPJ.out _ (by rw [HL.out]; split <;> omega)⟩, by simp [intOf]⟩
end Go.Proofs.Ytppdcjjkkckokaa
