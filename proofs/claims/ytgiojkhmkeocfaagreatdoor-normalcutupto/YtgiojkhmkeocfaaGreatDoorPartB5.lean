/-
  Texts that belong together, joined: MiRep, MiKp, MiKw, MiDf, MiKm, PcMath, PcSl, PcWk.
-/
import Derived.Test.YtgiojkhmkeocfaaGreatDoorPartB4
import Derived.Laws.CopyOwn
import Derived.Laws.Bits64b
import Derived.Test.YtgiojkhmkeocfaaGreatDoorPartA5
import Derived.Test.YtgiojkhmkeocfaaGreatDoorPartA4

/- A row of one number, again and again: bits.Mul, slices.Repeat, walked. -/
set_option maxRecDepth 20000
namespace Go.Proofs.YtgiojkhmkeocfaaGreatDoor
open Go.RowKit
attribute [local simp] low_drew

set_option maxHeartbeats 1000000 in
theorem Mul64_one (n : Nat) (hn : n ≤ 1048576) (w : World) :
    Calls Tryz.prog 277 #[.int .u64 1, .int .u64 (n : Int)] w fun e w' => e = .returned (.tuple #[.int .u64 0, .int .u64 (n : Int)]) ∧ w = w' := by
  have b1 : bits BinOp.and IntKind.u64 1 4294967295 = 1 := by decide
  have b0 : bits BinOp.and IntKind.u64 0 4294967295 = 0 := by decide
  have b2 : bits BinOp.and IntKind.u64 (n : Int) 4294967295 = (n : Int) := by
    have h := bits_and_u64_nat n 4294967295 (by omega) (by omega)
    have e : n &&& 4294967295 = n % 4294967296 := Nat.and_two_pow_sub_one_eq_mod n 32
    rw [e, Nat.mod_eq_of_lt (by omega)] at h
    exact h
  have d1 : (n : Int) / 4294967296 = 0 := by omega
  go_enter Tryz.func277, Tryz.ntmps277
  go_wp2
  go_ret2
  exact ⟨rfl, rfl⟩
set_option maxHeartbeats 1000000 in
theorem Mul_one (n : Nat) (hn : n ≤ 1048576) (w : World) :
    Calls Tryz.prog 249 #[.int .u64 1, .int .u64 (n : Int)] w fun e w' => e = .returned (.tuple #[.int .u64 0, .int .u64 (n : Int)]) ∧ w = w' := by
  go_enter Tryz.func249, Tryz.ntmps249
  go_wp2_with fail
  refine (Mul64_one n hn w).mono ?_
  rintro e w' ⟨rfl, rfl⟩
  go_wp2
  go_ret2
  exact ⟨rfl, rfl⟩

theorem run_makeI (N : Nat) (hN : N ≤ 1099511627776) (W : World) :
    (Instr.makeSlice 71 (.int .i64 (N : Int)) (.int .i64 (N : Int))).run Tryz.prog W = .ok (.slice (some ⟨W.heap.size, 0, none⟩) N N) (W.alloc (.cells (madeCells #[.int .i64 0] N) 3)) := by
  obtain ⟨i0, hi, hz0, hzs, hz2⟩ := info_parts infoInt
  have h1 : i0.bytes * N ≤ 8 * 1099511627776 := by rw [hz2]; exact Nat.mul_le_mul_left _ hN
  have hr := run_make (P := Tryz.prog) W 71 3 i0 _ Tryz.underlying71 hi hz0 .i64 .i64 (N : Int) (N : Int) (by omega) (Int.le_refl _) (by
    have : ((i0.bytes * N : Nat) : Int) ≤ 281474976710656 := by omega
    rwa [Int.natCast_mul] at this) (by omega)
  simpa [hzs, Value.cells] using hr

theorem madeI (N : Nat) : madeCells #[.int .i64 0] N = (List.replicate N (Value.int .i64 0)).toArray := by
  apply Array.toList_inj.1
  apply List.ext_getElem
  · simp [madeCells]
  · intro i h1 h2
    simp [madeCells, Nat.mod_one]
theorem run_low (g N k : Nat) (hk : k < N) (u : World) : (Instr.slice 71 (.slice (some ⟨g, 0, none⟩) N N) (some (.int .i64 (k : Int))) none none).run Tryz.prog u = .ok (.slice (some ⟨g, k, none⟩) (N - k) (N - k)) u := by
  rw [run_slice_l (P := Tryz.prog) u 71 (some ⟨g, 0, none⟩) N N (by kernel_rfl) .i64 k (by omega) (by omega)]
  have : (sizeOf (Tryz.prog.elem 71)).run Tryz.prog u = .ok 1 u := by kernel_rfl
  rw [this]
  simp [Result.andThen, sliced, add_none]
  omega
theorem run_high (g N k : Nat) (hk : k ≤ N) (u : World) : (Instr.slice 71 (.slice (some ⟨g, 0, none⟩) N N) none (some (.int .i64 (k : Int))) none).run Tryz.prog u = .ok (.slice (some ⟨g, 0, none⟩) k N) u := by
  rw [run_slice_h (P := Tryz.prog) u 71 (some ⟨g, 0, none⟩) N N (by kernel_rfl) .i64 k (by omega) (by omega)]
  have : (sizeOf (Tryz.prog.elem 71)).run Tryz.prog u = .ok 1 u := by kernel_rfl
  rw [this]
  simp [Result.andThen, sliced, add_none]
theorem size1 : (Tryz.prog.info? 3).map (·.size) = some 1 := by kernel_rfl
/-- a row whose first k cells are -1 -/
def Ones (cur : List Value) (N k : Nat) : Prop := cur.length = N ∧ cur.take k = icells (List.replicate k (-1))
theorem Ones.more {cur : List Value} {N k d : Nat} (h : Ones cur N k) (hk : k + d ≤ N) : Ones (splice cur k (icells (List.replicate d (-1)))) N (k + d) := by
  refine ⟨?_, ?_⟩
  · rw [length_splice _ _ _ (by rw [icells_length, h.1]; simpa using hk), h.1]
  · have h1 : (cur.take k).length = k := by rw [List.length_take, h.1]; omega
    rw [splice, ← List.append_assoc, List.take_left' (by rw [List.length_append, h1, icells_length, List.length_replicate]), h.2, ← icells_append, List.replicate_append_replicate]
theorem Ones.cell {cur : List Value} {N k : Nat} (h : Ones cur N k) (j : Nat) (hj : j < k) : cur[j]? = some (.int .i64 (-1)) := by
  have : (cur.take k)[j]? = some (.int .i64 (-1)) := by rw [h.2]; simp [icells, hj]
  rw [List.getElem?_take] at this
  simpa [hj] using this

set_option maxRecDepth 10000 in
set_option maxHeartbeats 4000000 in
theorem Repeat_f (N : Nat) (hN : N ≤ 1048576) (v : Value) (w : World) (hv : HI w v [-1]) :
    Calls Tryz.prog 228 #[v, .int .i64 (N : Int)] w fun e w' => ∃ g, e = .returned (.slice (some ⟨g, 0, none⟩) N N) ∧ w'.ownsRow w.heap.size 3 1 (.slice (some ⟨g, 0, none⟩) N N) N (icells (List.replicate N (-1))) ∧ Below w.heap.size w w' := by
  obtain ⟨ao, ca, rfl⟩ := Holds.form hv
  obtain ⟨b, off, rfl, hb, hc⟩ := HI.at hv (by decide)
  have c0 : w.cell? ⟨b, off, none⟩ = some (.int .i64 (-1)) := hc 0 (by decide)
  clear hc hv
  have hmk := run_makeI N (by omega)
  rw [madeI] at hmk
  obtain ⟨d, hd⟩ : ∃ d, d = Nat.min 1 N := ⟨_, rfl⟩
  have hd' : d ≤ 1 ∧ d ≤ N ∧ (0 < N → d = 1) := by
    rw [hd]
    show min 1 N ≤ 1 ∧ min 1 N ≤ N ∧ (0 < N → min 1 N = 1)
    omega
  have HDn : Hid ((icells (List.replicate d (-1))).length = Nat.min 1 N) := (by show _ = _; rw [icells_length, List.length_replicate, hd])
  clear hd
  simp only [List.length_singleton] at *
  go_enter Tryz.func228, Tryz.ntmps228
  go_wp2_with fail
  refine (Mul_one N hN w).mono ?_
  rintro e w0 ⟨rfl, rfl⟩
  have hcb : (w.alloc (Obj.cells (List.replicate N (Value.int .i64 0)).toArray 3)).cell? ⟨b, off, none⟩ = some (.int .i64 (-1)) := by
    rw [World.cell?_of_block (w := w) (Below.heap_alloc _ _ _ hb)]; exact c0
  have hsrc : ∀ j v, (icells (List.replicate d (-1)))[j]? = some v → (w.alloc (Obj.cells (List.replicate N (Value.int .i64 0)).toArray 3)).cell? ((⟨b, off, none⟩ : Addr).add j) = some v := by
    intro j v hj
    have hl := (List.getElem?_eq_some_iff.1 hj).1
    rw [icells_length, List.length_replicate] at hl
    obtain rfl : j = 0 := by omega
    simp [icells, hl] at hj
    rw [add_none, Nat.add_zero, hcb, hj]
  have hfit : 0 + (icells (List.replicate d (-1))).length ≤ (List.replicate N (Value.int .i64 0)).length := by rw [icells_length]; simp; omega
  go_wp2_with (refine wpList_copy_splice (o := ⟨some 33, _, _, _, _, none⟩) rfl (.tmp 31) (.tmp 32) 71 71 rfl 3 Tryz.underlying71 (by kernel_rfl) _ _ _ _ _ _ rfl rfl w.heap.size 0 (List.replicate N (Value.int .i64 0)) 3 (_root_.Go.heap_alloc_new w _) (icells (List.replicate d (-1))) HDn.out (fun _ => ⟨rfl, _, rfl, hsrc⟩) hfit (icells_one _) w.heap.size w ((Below.refl _ w).alloc (Nat.le_refl _) _) (Nat.le_refl _) ?_)
  intro w1 hg1 hB1
  have hlen0 : ((icells (List.replicate d (-1))).length : Int) = (d : Int) := by rw [icells_length, List.length_replicate]
  simp only [hlen0]
  have hOn : Ones (splice (List.replicate N (Value.int .i64 0)) 0 (icells (List.replicate d (-1)))) N (0 + d) := Ones.more ⟨by simp, by simp [icells]⟩ (by omega)
  rw [Nat.zero_add] at hOn
  generalize splice (List.replicate N (Value.int .i64 0)) 0 (icells (List.replicate d (-1))) = cur1 at *
  clear hsrc hfit hcb HDn hmk hlen0
  go_wp2
  go_loopw [8] (fun nv wr => ∃ (k : Nat) (cur : List Value), k ≤ N ∧ (0 < N → 0 < k) ∧ nv = .int .i64 (k : Int) ∧ Below w.heap.size w wr ∧ Hid (wr.heap[w.heap.size]? = some (.cells cur.toArray 3 (0, 0))) ∧ Hid (Ones cur N k)) (fun nv _ => N - (intOf nv).toNat)
  case atStart => exact ⟨d, cur1, by omega, by omega, rfl, hB1, hg1, hOn⟩
  case round =>
    obtain ⟨k, cur, hk, hk0, rfl, hB, hg, hO⟩ := hrel
    by_cases hlt : k < N
    · have s1 := run_low w.heap.size N k hlt
      have s2 := run_high w.heap.size N k (by omega)
      obtain ⟨d, hd⟩ : ∃ d, d = Nat.min k (N - k) := ⟨_, rfl⟩
      have hd' : d ≤ k ∧ d ≤ N - k ∧ 0 < d := by
        rw [hd]
        show min k (N - k) ≤ k ∧ min k (N - k) ≤ N - k ∧ 0 < min k (N - k)
        have := hk0 (by omega)
        omega
      have HDn : Hid ((icells (List.replicate d (-1))).length = Nat.min k (N - k)) := (by show _ = _; rw [icells_length, List.length_replicate, hd])
      clear hd
      have hlen0 : ((icells (List.replicate d (-1))).length : Int) = (d : Int) := by rw [icells_length, List.length_replicate]
      have hw1 : IntKind.i64.wrap ((k : Int) + (d : Int)) = ((k + d : Nat) : Int) := by rw [IntKind.wrap_i64]; omega
      have hsrc : ∀ u : World, u.heap = wr.heap → ∀ j v, (icells (List.replicate d (-1)))[j]? = some v → u.cell? ((⟨w.heap.size, 0, none⟩ : Addr).add j) = some v := by
        intro u hu j v hj
        have hl := (List.getElem?_eq_some_iff.1 hj).1
        rw [icells_length, List.length_replicate] at hl
        simp [icells, hl] at hj
        have hgu : u.heap[w.heap.size]? = some (.cells cur.toArray 3 (0, 0)) := by rw [hu]; exact hg.out
        rw [add_none, Nat.zero_add, Lib.cell_of_heap hgu, ← hj]
        have := hO.out.cell j (by omega)
        simpa using this
      have hfit : k + (icells (List.replicate d (-1))).length ≤ cur.length := by rw [icells_length, hO.out.1]; simp; omega
      have hi1 : (0 : Int) ≤ (k : Int) := by omega
      have hi2 : (k : Int) ≤ (N : Int) := by omega
      go_wp2_with fail
      have hlow : Low w wr := hB
      go_region_held3 (fun u => Low w u) (go_keep)
        (first | (refine step_copy_splice (P := Tryz.prog) rfl (.tmp 41) (.tmp 44) 71 71 rfl 3 Tryz.underlying71 size1 (some ⟨w.heap.size, k, none⟩) (some ⟨w.heap.size, 0, none⟩) (N - k) (N - k) k N rfl rfl w.heap.size k cur 3 hg.out (icells (List.replicate d (-1))) HDn.out (fun _ => ⟨rfl, _, rfl, hsrc _ rfl⟩) hfit (icells_one _) w.heap.size w (Below.dN hB 1) (Nat.le_refl _) ?_; intro w2 hg2 hB2; have hlow2 : Low w w2 := hB2; simp only [goInt, hlen0]))
      go_wp2
      go_roundw
      case rel => exact ⟨k + d, _, by omega, by omega, by go_num, hB2, hg2, hO.out.more (by omega)⟩
      case measure => simp [intOf]; omega
    · obtain rfl : k = N := by omega
      go_wp2
      go_ret
      have hL := hO.out.2
      rw [List.take_of_length_le (by rw [hO.out.1]; omega)] at hL
      refine ⟨w.heap.size, rfl, ?_, hB⟩
      refine ⟨by rw [icells_length]; simp, .inr ⟨w.heap.size, k, cur.toArray, rfl, Nat.le_refl _, hg.out, Nat.le_refl _, by unfold maxLen; omega, ?_, ?_⟩⟩
      · simp [hO.out.1]
      · rw [hL, List.take_of_length_le (by rw [icells_length]; simp)]
end Go.Proofs.YtgiojkhmkeocfaaGreatDoor

/- What the least edit script keeps: kept, walked. -/
set_option maxRecDepth 20000
namespace Go.Proofs.YtgiojkhmkeocfaaGreatDoor
open Go.RowKit

/-- how far what is kept is written down: the first a members, b of y's behind them; X and Y are left -/
def Pt (K Z : List Int) (n a : Nat) (b : Int) (X Y : List Int) : Prop := ∃ P : List Int, P.length = a ∧ a ≤ n ∧ Z = P ++ List.replicate (n - a) (-1) ∧ P ++ kp b X Y = K
theorem Pt.start (x y : List Int) : Pt (kp 0 x y) (List.replicate x.length (-1)) x.length 0 0 x y := ⟨[], rfl, Nat.zero_le _, by simp, by simp⟩
theorem Pt.len {K Z : List Int} {n a : Nat} {b : Int} {X Y : List Int} (h : Pt K Z n a b X Y) : Z.length = n := by
  obtain ⟨P, h1, h2, h3, _⟩ := h
  rw [h3, List.length_append, h1, List.length_replicate]
  omega
theorem Pt.pair {K Z : List Int} {n a : Nat} {b : Int} {X Y X' Y' : List Int} (h : Pt K Z n a b X Y) (hn : a < n) (hk : kp b X Y = b :: kp (b + 1) X' Y') : Pt K (Z.set a b) n (a + 1) (b + 1) X' Y' := by
  obtain ⟨P, h1, h2, h3, h4⟩ := h
  refine ⟨P ++ [b], by simp [h1], hn, ?_, by rw [← h4, hk]; simp⟩
  rw [h3, show n - a = (n - (a + 1)) + 1 by omega, List.replicate_succ, List.set_append_right _ _ (by omega), h1]
  simp
theorem Pt.out {K Z : List Int} {n a : Nat} {b : Int} {X Y X' : List Int} (h : Pt K Z n a b X Y) (hn : a < n) (hk : kp b X Y = -1 :: kp b X' Y) : Pt K Z n (a + 1) b X' Y := by
  obtain ⟨P, h1, h2, h3, h4⟩ := h
  refine ⟨P ++ [-1], by simp [h1], hn, ?_, by rw [← h4, hk]; simp⟩
  rw [h3, show n - a = (n - (a + 1)) + 1 by omega, List.replicate_succ]
  simp
theorem Pt.skip {K Z : List Int} {n a : Nat} {b : Int} {X Y Y' : List Int} (h : Pt K Z n a b X Y) (hk : kp b X Y = kp (b + 1) X Y') : Pt K Z n a (b + 1) X Y' := by
  obtain ⟨P, h1, h2, h3, h4⟩ := h
  exact ⟨P, h1, h2, h3, by rw [← h4, hk]⟩
theorem Pt.done {K Z : List Int} {n a : Nat} {b : Int} {X Y : List Int} (h : Pt K Z n a b X Y) (hX : X.length = n - a) (he : X = [] ∨ Y = []) : Z = K := by
  obtain ⟨P, h1, h2, h3, h4⟩ := h
  rcases he with rfl | rfl
  · rw [kp_nil, List.append_nil] at h4
    simp at hX
    rw [h3, ← hX, ← h4]
    simp
  · rw [kp_none, hX] at h4
    rw [h3, h4]

/-- the state of the walk: the row of what is kept, the table, the variable that holds it -/
structure Kst (w : World) (g gt bx n M N : Nat) (Z : List Int) (T : List Value) (wr : World) : Prop where
  low : Below w.heap.size w wr
  own : wr.ownsRow w.heap.size 3 1 (.slice (some ⟨g, 0, none⟩) n n) n (icells Z)
  tab : wr.ownsRow w.heap.size 305 1 (.slice (some ⟨gt, 0, none⟩) N N) N T
  box : wr.heap[bx]? = some (Obj.cells #[.int .i64 (M : Int), .slice (some ⟨gt, 0, none⟩) N N] 277 (0, 0))
section
variable {w : World} {g gt bx n M N : Nat} {Z : List Int} {T : List Value} {wr : World}
theorem Kst.keep {w' : World} (h : Kst w g gt bx n M N Z T wr) (hb : Below wr.heap.size wr w') : Kst w g gt bx n M N Z T w' :=
  ⟨h.low.trans (hb.mono h.low.size), owns_keep h.own hb, owns_keep h.tab hb, (hb.block _ (Array.getElem?_eq_some_iff.1 h.box).1).trans h.box⟩
theorem Kst.drewN (h : Kst w g gt bx n M N Z T wr) (k : Nat) : Kst w g gt bx n M N Z T (wr.drewN k) := ⟨Below.dN h.low k, h.own, h.tab, h.box⟩
theorem Kst.bx' (h : Kst w g gt bx n M N Z T wr) : Bx bx M gt N wr wr := ⟨h.box, Below.refl _ _⟩
theorem own_at {base : Nat} {e : TypeId} {s : Nat} {g n c : Nat} {xs : List Value} (h : wr.ownsRow base e s (.slice (some ⟨g, 0, none⟩) n c) n xs) : base ≤ g ∧ ∃ cur, wr.heap[g]? = some (.cells cur e (0, 0)) := by
  rcases h.2 with ⟨h, _⟩ | ⟨g', cap, cur, h, hb, hc, _⟩
  · cases h
  · cases h
    exact ⟨hb, cur, hc⟩
theorem Kst.store (h : Kst w g gt bx n M N Z T wr) (p : Nat) (v : Int) : Kst w g gt bx n M N (Z.set p v) T (wr.setCell ⟨g, p, none⟩ (.int .i64 v)) := by
  obtain ⟨p1, g1⟩ := h.own.stored p (.int .i64 v)
  obtain ⟨hgb, cur, hg⟩ := own_at h.own
  obtain ⟨_, cur', hgt⟩ := own_at h.tab
  have e : (icells Z).set p (.int .i64 v) = icells (Z.set p v) := by simp [icells, List.map_set]
  rw [e] at p1
  refine ⟨h.low.grown g1 h.low.size (fun j hj => by have := Option.some.inj hj; omega), p1, ?_, ?_⟩
  · refine h.tab.kept g1 (.inr ?_)
    intro q
    have : gt = g := by simpa [Value.ownBlock] using q
    subst this
    rw [hg] at hgt
    cases hgt
  · refine (g1.block _ (Array.getElem?_eq_some_iff.1 h.box).1 (fun q => ?_)).trans h.box
    have : bx = g := by simpa using q
    subst this
    have := h.box
    rw [hg] at this
    cases this
end
theorem Bx.cell {b W g N : Nat} {wr w : World} (h : Bx b W g N wr w) {a : Addr} {v : Value} (hc : wr.cell? a = some v) : w.cell? a = some v := by
  rw [World.cell?_of_block (w := wr) (h.low.block _ (World.block_lt_of_cell? wr _ hc))]; exact hc
end Go.Proofs.YtgiojkhmkeocfaaGreatDoor

/- What the least edit script keeps: kept, walked (the walk itself). -/
set_option maxRecDepth 20000
namespace Go.Proofs.YtgiojkhmkeocfaaGreatDoor
open Go.RowKit
attribute [local simp] bx_drew

set_option maxRecDepth 10000 in
set_option maxHeartbeats 4000000 in
theorem kept_f (x y : List Int) (vx vy : Value) (w : World) (hx : HI w vx x) (hy : HI w vy y) (hxl : x.length ≤ 4096) (hyl : y.length ≤ 4096) (K : List Int) (hK : Hid (kp 0 x y = K)) :
    Calls Tryz.prog 180 #[vx, vy] w fun e w' => ∃ v, e = .returned v ∧ HI w' v K ∧ Below w.heap.size w w' := by
  obtain ⟨xo, xc, rfl⟩ := Holds.form hx
  obtain ⟨yo, yc, rfl⟩ := Holds.form hy
  go_enter Tryz.func180, Tryz.ntmps180
  go_wp2_with fail
  have hB0 : Below w.heap.size w (w.alloc (Obj.cells #[Value.int IntKind.i64 (-1)] 3)) := (Below.refl _ w).alloc (Nat.le_refl _) _
  refine (Repeat_f x.length (by omega) _ _ (show HI _ _ [-1] from new_holds w _ _ _ _ (by decide))).mono ?_
  rintro e w1 ⟨g, rfl, hO1, hB1⟩
  have hB01 := hB0.trans (hB1.mono hB0.size)
  have hO1' : w1.ownsRow w.heap.size 3 1 (.slice (some ⟨g, 0, none⟩) x.length x.length) x.length (icells (List.replicate x.length (-1))) := by
    refine ⟨hO1.1, ?_⟩
    rcases hO1.2 with h | ⟨g', cap, cur, q1, q2, q3⟩
    · exact .inl h
    · exact .inr ⟨g', cap, cur, q1, Nat.le_trans (by simp) q2, q3⟩
  clear hB0 hB1 hO1
  have hx1 := HI.keep hx hB01 (Nat.le_refl _)
  have hy1 := HI.keep hy hB01 (Nat.le_refl _)
  go_wp2_with fail
  obtain ⟨f, hf⟩ : ∃ f, fr x y = f := ⟨_, rfl⟩
  have hfl := fr_le x y
  rw [hf] at hfl
  refine (front_f x y f _ _ _ hx1 hy1 (by omega) (by omega) hf).mono ?_
  rintro e w2 ⟨rfl, hB2⟩
  have hB02 := hB01.trans (hB2.mono hB01.size)
  have hO2 := owns_keep hO1' hB2
  have HF : Hid (fr x y = f) := hf
  clear hf hB01 hO1' hB2 hx1 hy1
  obtain ⟨hfx, hfy⟩ := hfl
  go_wp2
  go_loopw [19] (fun iv wr => ∃ (k : Nat) (Z : List Int), k ≤ f ∧ iv = .int .i64 (k : Int) ∧ Below w.heap.size w wr ∧ wr.ownsRow w.heap.size 3 1 (.slice (some ⟨g, 0, none⟩) x.length x.length) x.length (icells Z) ∧ Hid (Pt K Z x.length k k (x.drop k) (y.drop k))) (fun iv _ => f - (intOf iv).toNat)
  case atStart => exact ⟨0, _, Nat.zero_le _, rfl, hB02, hO2, (by rw [← hK.out]; exact Pt.start x y)⟩
  case round =>
    obtain ⟨k, Z, hk, rfl, hB, hO, hP⟩ := hrel
    by_cases hlt : k < f
    · have hkx : k < x.length := by omega
      have f0 := hO.frozenAt k
      have hZl := hP.out.len
      have y0 := hO.cellAt k (by omega)
      rw [List.getElem?_eq_getElem (by rw [icells_length]; omega)] at y0
      obtain ⟨z0, hz0⟩ : ∃ z, (icells Z)[k]'(by rw [icells_length]; omega) = z := ⟨_, rfl⟩
      rw [hz0] at y0
      clear hz0 hZl
      obtain ⟨p1, g1⟩ := hO.stored k (.int .i64 (k : Int))
      rw [show (icells Z).set k (.int .i64 (k : Int)) = icells (Z.set k (k : Int)) by simp [icells, List.map_set]] at p1
      have hB1 := hB.grown g1 hB.size (fun j hj => by have := Option.some.inj hj; have := (own_at hO).1; omega)
      clear g1
      have i1 : 0 ≤ (k : Int) := by omega
      have i2 : (k : Int) < (x.length : Int) := by omega
      have i3 : (k : Int) < (f : Int) := by omega
      have HP2 : Hid (Pt K (Z.set k (k : Int)) x.length (k + 1) ((k + 1 : Nat) : Int) (x.drop (k + 1)) (y.drop (k + 1))) := hP.out.pair hkx (kp_same_front k x y k (by rw [HF.out]; exact hlt))
      go_wp2
      go_roundw
      case rel => exact ⟨k + 1, _, by omega, by go_num, hB1, p1, HP2⟩
      case measure => simp [intOf]; omega
    · obtain rfl : k = f := by omega
      obtain ⟨vox, vcx, hsx, hhx⟩ := run_from x xo xc k w hfx hx
      obtain ⟨voy, vcy, hsy, hhy⟩ := run_from y yo yc k w hfy hy
      have hX := hhx w hx
      have hY := hhy w hy
      have hlx : (x.drop k).length = x.length - k := by simp
      have hly : (y.drop k).length = y.length - k := by simp
      have HP := hP.out
      have i1 : (0 : Int) ≤ (k : Int) := by omega
      have i2 : (k : Int) ≤ (x.length : Int) := by omega
      have i3 : (k : Int) ≤ (y.length : Int) := by omega
      go_wp2_with fail
      go_quiet (fail)
      go_wp2_with fail
      have hwq : Below w.heap.size w (wr.drewN nq) := Below.dN hB nq
      have hoq : (wr.drewN nq).ownsRow w.heap.size 3 1 (.slice (some ⟨g, 0, none⟩) x.length x.length) x.length (icells Z) := hO
      generalize wr.drewN nq = wq at *
      rw [← hlx] at hX ⊢
      rw [← hly] at hY ⊢
      clear hsx hsy hhx hhy hP hO hB hO2 hB02 HF
      generalize x.drop k = X at *
      generalize y.drop k = Y at *
      have HXL : Hid (X.length = x.length - k) := hlx
      have hXb : X.length ≤ 4096 := by omega
      have hYb : Y.length ≤ 4096 := by omega
      have hkX : k + X.length = x.length := by omega
      clear hlx hly
      obtain ⟨M, hM⟩ : ∃ M, M = Y.length + 1 := ⟨_, rfl⟩
      obtain ⟨N, hN⟩ : ∃ N, N = (X.length + 1) * M := ⟨_, rfl⟩
      have HM : Hid (M = Y.length + 1) := hM
      have HN : Hid (N = (X.length + 1) * M) := hN
      clear hM hN
      refine (measure_f X Y _ _ _ (HI.keep hX hwq (Nat.le_refl _)) (HI.keep hY hwq (Nat.le_refl _)) hXb hYb N M HM HN).mono ?_
      rintro e w3 ⟨gt, T, rfl, hT, hD, hB3⟩
      have hB03 := hwq.trans (hB3.mono hwq.size)
      have hO3 := owns_keep hoq hB3
      have hT' : w3.ownsRow w.heap.size 305 1 (.slice (some ⟨gt, 0, none⟩) N N) N T := by
        refine ⟨hT.1, ?_⟩
        rcases hT.2 with h | ⟨g', cap, cur, q1, q2, q3⟩
        · exact .inl h
        · exact .inr ⟨g', cap, cur, q1, Nat.le_trans hwq.size q2, q3⟩
      have hS0 : Kst w g gt w3.heap.size x.length M N Z T (w3.alloc (Obj.cells #[.int .i64 (M : Int), .slice (some ⟨gt, 0, none⟩) N N] 277)) := ⟨hB03.alloc hB03.size _, hO3.alloc _, hT'.alloc _, _root_.Go.heap_alloc_new w3 _⟩
      obtain ⟨bx, hbx⟩ : ∃ bx, bx = w3.heap.size := ⟨_, rfl⟩
      have HD : Hid (Done X Y 0 0 T) := hD
      have HP0 : Hid (Pt K Z x.length k (k : Int) X Y) := HP
      clear hT hB3 hwq hoq hT' hO3 hB03 hD HP
      unfold tabV
      go_wp2
      go_loopw [9, 10] (fun iv jv wi => ∃ (i j : Nat) (Z' : List Int), i ≤ X.length ∧ j ≤ Y.length ∧ iv = .int .i64 (i : Int) ∧ jv = .int .i64 (j : Int) ∧ Kst w g gt w3.heap.size x.length M N Z' T wi ∧ Hid (Pt K Z' x.length (k + i) ((k : Int) + (j : Int)) (X.drop i) (Y.drop j))) (fun iv jv _ => X.length - (intOf iv).toNat + (Y.length - (intOf jv).toNat))
      case atStart => exact ⟨0, 0, Z, Nat.zero_le _, Nat.zero_le _, rfl, rfl, hS0, (by show Pt _ _ _ _ _ _ _; simpa using HP0.out)⟩
      case round =>
        obtain ⟨i, j, Z', hi, hj, rfl, rfl, hS, hP⟩ := hrel
        clear hS0 HP0
        by_cases hix : i < X.length
        · by_cases hjy : j < Y.length
          · obtain ⟨bX, oX, rfl, _, hcx⟩ := HI.at (HI.keep hX hS.low (Nat.le_refl _)) (by omega)
            obtain ⟨bY, oY, rfl, _, hcy⟩ := HI.at (HI.keep hY hS.low (Nat.le_refl _)) (by omega)
            have d1 := hcx i hix
            have d2 := hcy j hjy
            have hkp := kp_step ((k : Int) + (j : Int)) X Y i j hix hjy
            obtain ⟨xi, hxi⟩ : ∃ z, X[i] = z := ⟨_, rfl⟩
            obtain ⟨yj, hyj⟩ : ∃ z, Y[j] = z := ⟨_, rfl⟩
            rw [hxi] at d1 hkp
            rw [hyj] at d2 hkp
            clear hcx hcy hxi hyj
            have i1 : 0 ≤ (i : Int) := by omega
            have i2 : (i : Int) < (X.length : Int) := by omega
            have i3 : 0 ≤ (j : Int) := by omega
            have i4 : (j : Int) < (Y.length : Int) := by omega
            by_cases hxy : xi = yj
            · rw [if_pos hxy] at hkp
              have HKP := hP.out.pair (by omega) hkp
              have HP2 : Hid (Pt K (Z'.set (k + i) ((k : Int) + (j : Int))) x.length (k + (i + 1)) ((k : Int) + ((j + 1 : Nat) : Int)) (X.drop (i + 1)) (Y.drop (j + 1))) := (by
                show Pt _ _ _ _ _ _ _
                rw [show k + (i + 1) = k + i + 1 by omega, show (k : Int) + ((j + 1 : Nat) : Int) = (k : Int) + (j : Int) + 1 by omega]
                exact HKP)
              clear hkp HKP
              have f0 := hS.own.frozenAt (k + i)
              have hZl := hP.out.len
              have y0 := hS.own.cellAt (k + i) (by omega)
              rw [List.getElem?_eq_getElem (by rw [icells_length]; omega)] at y0
              obtain ⟨z0, hz0⟩ : ∃ z, (icells Z')[k + i]'(by rw [icells_length]; omega) = z := ⟨_, rfl⟩
              rw [hz0] at y0
              have i5 : (k : Int) + (i : Int) < (x.length : Int) := by omega
              have i6 : 0 ≤ (k : Int) + (i : Int) := by omega
              have i7 : ((k : Int) + (i : Int)).toNat = k + i := by omega
              have HkX : Hid (k + X.length = x.length) := hkX
              clear hz0 hZl hkX
              go_wp2_with fail
              go_quiet (fail)
              go_wp2
              go_roundw
              case rel => exact ⟨i + 1, j + 1, _, by omega, by omega, by go_num, by go_num, (hS.drewN _).store (k + i) ((k : Int) + (j : Int)), HP2⟩
              case measure => simp [intOf]; omega
            · have hxy' : decide (xi = yj) = false := decide_eq_false hxy
              rw [if_neg hxy] at hkp
              have HkX : Hid (k + X.length = x.length) := hkX
              obtain ⟨a1, ha1⟩ : ∃ a, ln X Y (i + 1) j = a := ⟨_, rfl⟩
              obtain ⟨a2, ha2⟩ : ∃ a, ln X Y i (j + 1) = a := ⟨_, rfl⟩
              obtain ⟨p0, hp0⟩ : ∃ p, p = i * M := ⟨_, rfl⟩
              have hpi : (i : Int) * (M : Int) = (p0 : Int) := by rw [hp0]; simp
              have hpi1 : ((i : Int) + 1) * (M : Int) = ((p0 + M : Nat) : Int) := by rw [Int.add_mul, hpi]; simp
              have t1 := done_cell hS.tab HD.out HM.out HN.out (i + 1) j (p0 + M + j) (by omega) (by omega) (by rw [hp0, Nat.succ_mul])
              have t2 := done_cell hS.tab HD.out HM.out HN.out i (j + 1) (p0 + (j + 1)) (by omega) (by omega) (by rw [hp0])
              have b1 := ln_le X Y (i + 1) j
              have b2 := ln_le X Y i (j + 1)
              rw [ha1] at t1 b1 hkp
              rw [ha2] at t2 b2 hkp
              have hNb : N ≤ 1099511627776 := by
                have h1 := HN.out
                have h2 := HM.out
                rw [h1, h2]
                exact Nat.le_trans (Nat.mul_le_mul (show X.length + 1 ≤ 4097 by omega) (show Y.length + 1 ≤ 4097 by omega)) (by decide)
              have hq1 : p0 + M + j < N := by rw [HN.out, hp0, ← Nat.succ_mul]; exact idx_lt (by have := HM.out; omega) (by omega)
              have hq2 : p0 + (j + 1) < N := by rw [HN.out, hp0]; exact idx_lt (by have := HM.out; omega) (by omega)
              have c1 : ((p0 + M : Nat) : Int) + (j : Int) = ((p0 + M + j : Nat) : Int) := by omega
              have c2 : (p0 : Int) + ((j : Int) + 1) = ((p0 + (j + 1) : Nat) : Int) := by omega
              have n1 : (0 : Int) ≤ (a1 : Int) := by omega
              have n2 : (a1 : Int) ≤ 4096 := by omega
              have n3 : (0 : Int) ≤ (a2 : Int) := by omega
              have n4 : (a2 : Int) ≤ 4096 := by omega
              have e1 : (0 : Int) ≤ (i : Int) + 1 := by omega
              have e2 : (0 : Int) ≤ (j : Int) + 1 := by omega
              have hw1 : IntKind.i64.wrap ((i : Int) + 1) = (i : Int) + 1 := by rw [IntKind.wrap_i64]; omega
              have hw2 : IntKind.i64.wrap ((j : Int) + 1) = (j : Int) + 1 := by rw [IntKind.wrap_i64]; omega
              clear ha1 ha2 hp0 hkX
              go_wp2_with fail
              go_quiet (fail)
              go_wp2_with fail
              have hSq := hS.drewN nq
              have t1q : (wr.drewN nq).cell? ⟨gt, p0 + M + j, none⟩ = some (.int .i16 (a1 : Int)) := t1
              have t2q : (wr.drewN nq).cell? ⟨gt, p0 + (j + 1), none⟩ = some (.int .i16 (a2 : Int)) := t2
              clear t1 t2 d1 d2 hS
              generalize wr.drewN nq = wq at *
              have hbS := hSq.bx'
              obtain ⟨q0, q1⟩ := hbS.cells
              go_region_held3 (fun u => u.cell? ⟨w3.heap.size, 0, none⟩ = some (.int .i64 (M : Int)) ∧ u.cell? ⟨w3.heap.size, 1, none⟩ = some (.slice (some ⟨gt, 0, none⟩) N N) ∧ Bx w3.heap.size M gt N wq u) (go_keep)
                (first | (go_at_call_has 231 (Value.int IntKind.i64 ((i : Int) + 1)); refine (bx_stay (at_f M gt N (p0 + M) (p0 + M + j) ((i : Int) + 1) (j : Int) (a1 : Int) _ e1 i3 hpi1 c1 hNb hq1 (Bx.cell (show Bx w3.heap.size M gt N wq _ from (by first | assumption | (rw [bx_drew]; assumption))) t1q) n1 n2) w3.heap.size M gt N wq (by first | assumption | (rw [bx_drew]; assumption))).mono ?_; rintro e w' ⟨rfl, e0, e1, hbS1⟩) | (go_at_call_has 231 (Value.int IntKind.i64 ((j : Int) + 1)); refine (bx_stay (at_f M gt N p0 (p0 + (j + 1)) (i : Int) ((j : Int) + 1) (a2 : Int) _ i1 e2 hpi c2 hNb hq2 (Bx.cell (show Bx w3.heap.size M gt N wq _ from (by first | assumption | (rw [bx_drew]; assumption))) t2q) n3 n4) w3.heap.size M gt N wq (by first | assumption | (rw [bx_drew]; assumption))).mono ?_; rintro e w' ⟨rfl, e0, e1, hbS2⟩))
              have hSn := hSq.keep hbS2.low
              clear hbS hbS1 hbS2 hSq t1q t2q q0 q1 e0 e1 hpi hpi1 c1 c2 hw1 hw2
              by_cases hle : a2 ≤ a1
              · rw [if_pos hle] at hkp
                have hle' : (a2 : Int) ≤ (a1 : Int) := by omega
                have HP2 : Hid (Pt K Z' x.length (k + (i + 1)) ((k : Int) + (j : Int)) (X.drop (i + 1)) (Y.drop j)) := (by
                  show Pt _ _ _ _ _ _ _
                  rw [show k + (i + 1) = k + i + 1 by omega]
                  exact hP.out.out (by have := HkX.out; omega) hkp)
                clear hkp
                go_wp2
                go_roundw
                case rel => exact ⟨i + 1, j, Z', by omega, by omega, by go_num, rfl, hSn, HP2⟩
                case measure => simp [intOf]; omega
              · rw [if_neg hle] at hkp
                have hle' : ¬ (a2 : Int) ≤ (a1 : Int) := by omega
                have HP2 : Hid (Pt K Z' x.length (k + i) ((k : Int) + ((j + 1 : Nat) : Int)) (X.drop i) (Y.drop (j + 1))) := (by
                  show Pt _ _ _ _ _ _ _
                  rw [show (k : Int) + ((j + 1 : Nat) : Int) = (k : Int) + (j : Int) + 1 by omega]
                  exact hP.out.skip hkp)
                clear hkp
                go_wp2
                go_roundw
                case rel => exact ⟨i, j + 1, Z', by omega, by omega, rfl, by go_num, hSn, HP2⟩
                case measure => simp [intOf]; omega
          · have hZ : Z' = K := hP.out.done (by simp; omega) (.inr (List.drop_of_length_le (by omega)))
            have hj' : ¬ (j : Int) < (Y.length : Int) := by omega
            have hi' : (i : Int) < (X.length : Int) := by omega
            subst hZ
            have hl := hP.out.len
            go_wp2
            go_ret
            refine ⟨_, rfl, ?_, hS.low⟩
            unfold HI
            rw [hl]
            exact holds_of hS.own
        · have hZ : Z' = K := hP.out.done (by simp; omega) (.inl (List.drop_of_length_le (by omega)))
          have hi' : ¬ (i : Int) < (X.length : Int) := by omega
          subst hZ
          have hl := hP.out.len
          go_wp2
          go_ret
          refine ⟨_, rfl, ?_, hS.low⟩
          unfold HI
          rw [hl]
          exact holds_of hS.own
end Go.Proofs.YtgiojkhmkeocfaaGreatDoor

/- Diff and the law's own test works, walked. -/
set_option maxRecDepth 20000
namespace Go.Proofs.YtgiojkhmkeocfaaGreatDoor
open Go.RowKit

set_option maxRecDepth 10000 in
set_option maxHeartbeats 2000000 in
theorem Diff_f (x y : List Int) (vx vy : Value) (w : World) (hx : HI w vx x) (hy : HI w vy y) (hxl : x.length ≤ 4096) (hyl : y.length ≤ 4096) (L : List Ch) (hL : Hid (mkL (kp 0 x y) y.length = L)) :
    Calls Tryz.prog 127 #[vx, vy] w fun e w' => ∃ v', e = .returned (.tuple #[v', .int .i64 0]) ∧ HCh w' v' L ∧ Below w.heap.size w w' := by
  obtain ⟨xo, xc, rfl⟩ := Holds.form hx
  obtain ⟨yo, yc, rfl⟩ := Holds.form hy
  go_enter Tryz.func127, Tryz.ntmps127
  go_wp2_with fail
  refine (tooLong_any x y _ _ _ hx hy false (by show _ = _; symm; simp; omega)).mono ?_
  rintro e w0 ⟨rfl, rfl⟩
  go_wp2_with fail
  refine (kept_f x y _ _ _ hx hy hxl hyl (kp 0 x y) rfl).mono ?_
  rintro e w1 ⟨v, rfl, hv, hB1⟩
  have hkl := kp_length 0 x y
  have hvk : Hid (Vk 0 (y.length : Int) (kp 0 x y)) := (by
    have := kp_vk 0 x y (Int.le_refl _)
    rw [Int.zero_add] at this
    exact this)
  generalize kp 0 x y = K at *
  obtain ⟨o1, c1, rfl⟩ := Holds.form hv
  have hKl : K.length ≤ 1048576 := by omega
  have HKL : Hid (K.length = x.length) := hkl
  clear hkl
  go_wp2_with fail
  refine (Make_f K y.length L _ _ hv hKl hvk (by omega) (by omega) hL).mono ?_
  rintro e w2 ⟨v2, rfl, hv2, hB2⟩
  go_wp2
  go_ret2
  exact ⟨_, rfl, hv2, hB1.trans (hB2.mono hB1.size)⟩

set_option maxHeartbeats 1000000 in
theorem Diff_long (x y : List Int) (vx vy : Value) (w : World) (hx : HI w vx x) (hy : HI w vy y) (hl : 4096 < x.length ∨ 4096 < y.length) :
    Calls Tryz.prog 127 #[vx, vy] w fun e w' => e = .returned (.tuple #[.slice none 0 0, .int .i64 9]) ∧ Below w.heap.size w w' := by
  obtain ⟨xo, xc, rfl⟩ := Holds.form hx
  obtain ⟨yo, yc, rfl⟩ := Holds.form hy
  go_enter Tryz.func127, Tryz.ntmps127
  go_wp2_with fail
  refine (tooLong_any x y _ _ _ hx hy true (by show _ = _; symm; simp; omega)).mono ?_
  rintro e w0 ⟨rfl, rfl⟩
  go_wp2
  go_ret2
  exact ⟨rfl, Below.refl _ _⟩

theorem two_rows (W : World) (cs ds : Array Value) (n m g : Nat) (hg : W.heap.size + 1 = g) (X Y : List Int) (hX : cs.toList = icells X) (hY : ds.toList = icells Y) (hn : n = X.length) (hm : m = Y.length) :
    HI ((W.alloc (.cells cs 3)).alloc (.cells ds 3)) (.slice (some ⟨W.heap.size, 0, none⟩) n n) X ∧ HI ((W.alloc (.cells cs 3)).alloc (.cells ds 3)) (.slice (some ⟨g, 0, none⟩) m m) Y ∧ Below W.heap.size W ((W.alloc (.cells cs 3)).alloc (.cells ds 3)) := by
  subst hn hm
  refine ⟨?_, ?_, ((Below.refl _ W).alloc (Nat.le_refl _) _).alloc (by simp) _⟩
  · have h : HI (W.alloc (.cells cs 3)) (.slice (some ⟨W.heap.size, 0, none⟩) X.length X.length) X := by
      have := new_holds W cs 3 X.length X.length (Nat.le_refl _)
      rw [hX] at this
      exact this
    exact HI.keep h ((Below.refl _ _).alloc (Nat.le_refl _) _) (Nat.le_refl _)
  · have := new_holds_at (W.alloc (.cells cs 3)) g (by rw [World.size_alloc]; exact hg) ds 3 Y.length Y.length (Nat.le_refl _)
    rw [hY] at this
    exact this

end Go.Proofs.YtgiojkhmkeocfaaGreatDoor

/- A script that is made of what is kept keeps it: plain. -/
set_option maxRecDepth 20000
namespace Go.Proofs.YtgiojkhmkeocfaaGreatDoor

theorem Right.many {f : Bool} {a b n m : Int} {l : List Ch} (h : Right f a b n m l) : (l.length : Int) ≤ (n - a) + (m - b) := by
  induction l generalizing f a b with
  | nil => have := h.le; simp; omega
  | cons c l ih =>
    obtain ⟨⟨h1, h2, h3, h4⟩, h5⟩ := h
    rw [numB_iff] at h1
    have := ih h5
    simp only [List.length_cons]
    omega
/-- a script that is made of what is kept keeps it -/
theorem keep_mk {K : List Int} {m : Int} (h : Vk 0 m K) (h0 : 0 ≤ m) (hm : m ≤ 2147483647) (hl : K.length ≤ 1048576) : Script (mkL K m) K.length m ∧ keepL (mkL K m) K.length m = K ∧ ((mkL K m).length : Int) ≤ K.length + m := by
  obtain ⟨hS, hU⟩ := mk_script h h0 hm hl
  refine ⟨hS, ?_, ?_⟩
  · have e : keepL (mkL K m) K.length m = kr 0 0 K.length m (mkL K m) := rfl
    rw [e]
    refine kept_inj (i := 0) ?_ ?_
    · rw [kr_length hS.2.2]; omega
    · rw [kr_kept hS.2.2 (Int.le_refl _), hU]
  · have := hS.2.2.many
    omega
end Go.Proofs.YtgiojkhmkeocfaaGreatDoor

/- Pieces of two rows of classes, and what of them is kept, whatever an engine does with the middle: plain. -/
set_option maxRecDepth 20000
namespace Go.Proofs.YtgiojkhmkeocfaaGreatDoor

/-- x from a up to b -/
def sub (x : List Int) (a b : Nat) : List Int := (x.drop a).take (b - a)
theorem sub_length (x : List Int) (a b : Nat) (hb : b ≤ x.length) : (sub x a b).length = b - a := by
  unfold sub
  rw [List.length_take, List.length_drop]
  omega
/-- how many are the same at the front of two pieces -/
def tfN (x y : List Int) : Nat → Nat → Nat → Nat
  | 0, _, _ => 0
  | n + 1, a, c => if x[a]? = y[c]? then tfN x y n (a + 1) (c + 1) + 1 else 0
def tf (x y : List Int) (a b c d : Nat) : Nat := tfN x y (min (b - a) (d - c)) a c
theorem tf_eq (x y : List Int) (a b c d : Nat) : tf x y a b c d = if a < b ∧ c < d ∧ x[a]? = y[c]? then tf x y (a + 1) b (c + 1) d + 1 else 0 := by
  unfold tf
  by_cases h : a < b ∧ c < d
  · rw [show min (b - a) (d - c) = min (b - (a + 1)) (d - (c + 1)) + 1 by omega, tfN]
    by_cases e : x[a]? = y[c]?
    · rw [if_pos e, if_pos ⟨h.1, h.2, e⟩]
    · rw [if_neg e, if_neg (fun q => e q.2.2)]
  · rw [show min (b - a) (d - c) = 0 by omega, tfN, if_neg (fun q => h ⟨q.1, q.2.1⟩)]
/-- at the end -/
def tb (x y : List Int) (a b c d : Nat) : Nat := if a < b ∧ c < d ∧ x[b - 1]? = y[d - 1]? then tb x y a (b - 1) c (d - 1) + 1 else 0
theorem tf_le (x y : List Int) (a b c d : Nat) : tf x y a b c d ≤ b - a ∧ tf x y a b c d ≤ d - c := by
  induction h : b - a generalizing a c with
  | zero => rw [tf_eq, if_neg (by omega)]; omega
  | succ n ih =>
    rw [tf_eq]
    split
    · have := ih (a + 1) (c + 1) (by omega)
      omega
    · omega
theorem tb_le (x y : List Int) (a b c d : Nat) : tb x y a b c d ≤ b - a ∧ tb x y a b c d ≤ d - c := by
  induction h : b - a generalizing b d with
  | zero => rw [tb, if_neg (by omega)]; omega
  | succ n ih =>
    rw [tb]
    split
    · have := ih (b - 1) (d - 1) (by omega)
      omega
    · omega
/-- the pairs at the front, at the end -/
def fp (a c : Nat) : Nat → List Pr
  | 0 => []
  | k + 1 => ⟨a, c⟩ :: fp (a + 1) (c + 1) k
def bp (b d : Nat) : Nat → List Pr
  | 0 => []
  | k + 1 => ⟨(b - 1 : Nat), (d - 1 : Nat)⟩ :: bp (b - 1) (d - 1) k
/-- within these bounds -/
def Wn (a b c d : Nat) (p : Pr) : Prop := (a : Int) ≤ p.X ∧ p.X < b ∧ (c : Int) ≤ p.Y ∧ p.Y < d
theorem fp_wn (a c k : Nat) : ∀ p ∈ fp a c k, Wn a (a + k) c (c + k) p := by
  induction k generalizing a c with
  | zero => intro p hp; simp [fp] at hp
  | succ k ih =>
    intro p hp
    rw [fp] at hp
    rcases List.mem_cons.1 hp with rfl | hp
    · exact ⟨by simp, by simp; omega, by simp, by simp; omega⟩
    · have := ih (a + 1) (c + 1) p hp
      unfold Wn at this ⊢
      omega
theorem bp_wn (b d k : Nat) (hb : k ≤ b) (hd : k ≤ d) : ∀ p ∈ bp b d k, Wn (b - k) b (d - k) d p := by
  induction k generalizing b d with
  | zero => intro p hp; simp [bp] at hp
  | succ k ih =>
    intro p hp
    rw [bp] at hp
    rcases List.mem_cons.1 hp with rfl | hp
    · unfold Wn
      dsimp only
      omega
    · have := ih (b - 1) (d - 1) (by omega) (by omega) p hp
      unfold Wn at this ⊢
      omega
/-- what the least script keeps, from place a on, c further on -/
def lp (a c : Int) : List Int → List Pr
  | [] => []
  | j :: K => (if j = -1 then [] else [⟨a, c + j⟩]) ++ lp (a + 1) c K
/-- both ends, and the middle by N -/
def ends (x y : List Int) (N : Nat → Nat → Nat → Nat → List Pr) (a b c d : Nat) : List Pr :=
  fp a c (tf x y a b c d) ++ (bp b d (tb x y (a + tf x y a b c d) b (c + tf x y a b c d) d) ++
    (if a + tf x y a b c d < b - tb x y (a + tf x y a b c d) b (c + tf x y a b c d) d ∧ c + tf x y a b c d < d - tb x y (a + tf x y a b c d) b (c + tf x y a b c d) d then
      N (a + tf x y a b c d) (b - tb x y (a + tf x y a b c d) b (c + tf x y a b c d) d) (c + tf x y a b c d) (d - tb x y (a + tf x y a b c d) b (c + tf x y a b c d) d)
    else []))
/-- what is kept of two pieces, by an engine M -/
def pcs (M : (Nat → Nat → Nat → Nat → List Pr) → Nat → Nat → Nat → Nat → List Pr) (x y : List Int) : Nat → Nat → Nat → Nat → Nat → List Pr
  | 0, _, _, _, _ => []
  | f + 1, a, b, c, d => ends x y (M (pcs M x y f)) a b c d
/-- the pairs are written down -/
def wrk (K : List Int) (l : List Pr) : List Int := l.foldl (fun K p => K.set p.X.toNat p.Y) K
theorem wrk_append (K : List Int) (a b : List Pr) : wrk K (a ++ b) = wrk (wrk K a) b := by simp [wrk]
theorem wrk_cons (K : List Int) (p : Pr) (b : List Pr) : wrk K (p :: b) = wrk (K.set p.X.toNat p.Y) b := rfl
theorem wrk_length (K : List Int) (l : List Pr) : (wrk K l).length = K.length := by
  induction l generalizing K with
  | nil => rfl
  | cons p l ih => rw [wrk_cons, ih, List.length_set]
/-- a pair elsewhere may be written first -/
theorem wrk_comm (K : List Int) (l : List Pr) (u : Nat) (v : Int) (h : ∀ p ∈ l, p.X.toNat ≠ u) : wrk (K.set u v) l = (wrk K l).set u v := by
  induction l generalizing K with
  | nil => rfl
  | cons p l ih =>
    rw [wrk_cons, wrk_cons, List.set_comm _ _ (fun e => h p (List.mem_cons_self ..) e.symm), ih _ (fun q hq => h q (List.mem_cons_of_mem _ hq))]

theorem tf_same (x y : List Int) (a b c d : Nat) : ∀ i, i < tf x y a b c d → x[a + i]? = y[c + i]? := by
  induction h : b - a generalizing a c with
  | zero => intro i hi; rw [tf_eq, if_neg (by omega)] at hi; omega
  | succ n ih =>
    intro i hi
    rw [tf_eq] at hi
    split at hi
    · rename_i hh
      cases i with
      | zero => exact hh.2.2
      | succ i =>
        have := ih (a + 1) (c + 1) (by omega) i (by omega)
        rw [show a + (i + 1) = a + 1 + i by omega, show c + (i + 1) = c + 1 + i by omega]
        exact this
    · omega
theorem tb_same (x y : List Int) (a b c d : Nat) : ∀ i, i < tb x y a b c d → x[b - (i + 1)]? = y[d - (i + 1)]? := by
  induction h : b - a generalizing b d with
  | zero => intro i hi; rw [tb, if_neg (by omega)] at hi; omega
  | succ n ih =>
    intro i hi
    rw [tb] at hi
    split at hi
    · rename_i hh
      cases i with
      | zero => exact hh.2.2
      | succ i =>
        have := ih (b - 1) (d - 1) (by omega) i (by omega)
        rw [show b - (i + 1 + 1) = b - 1 - (i + 1) by omega, show d - (i + 1 + 1) = d - 1 - (i + 1) by omega]
        exact this
    · omega
/-- any two are the same, or one is above the other -/
def Ris (l : List Pr) : Prop := ∀ p ∈ l, ∀ q ∈ l, p = q ∨ ab q p ∨ ab p q
/-- within these bounds, rising, and of the same class -/
structure Okp (x y : List Int) (a b c d : Nat) (l : List Pr) : Prop where
  wn : ∀ p ∈ l, Wn a b c d p
  ris : Ris l
  eqs : ∀ p ∈ l, x[p.X.toNat]? = y[p.Y.toNat]?
section
variable {x y : List Int}
theorem Okp.nil (a b c d : Nat) : Okp x y a b c d [] := ⟨fun p hp => by simp at hp, fun p hp => by simp at hp, fun p hp => by simp at hp⟩
theorem Okp.mono {a b c d a' b' c' d' : Nat} {l : List Pr} (h : Okp x y a b c d l) (ha : a' ≤ a) (hb : b ≤ b') (hc : c' ≤ c) (hd : d ≤ d') : Okp x y a' b' c' d' l := ⟨fun p hp => by have := h.wn p hp; unfold Wn at this ⊢; omega, h.ris, h.eqs⟩
theorem Okp.one {a c : Nat} (h : x[a]? = y[c]?) : Okp x y a (a + 1) c (c + 1) [⟨a, c⟩] := ⟨fun p hp => by simp at hp; subst hp; unfold Wn; dsimp only; omega, fun p hp q hq => by simp at hp hq; subst hp; subst hq; exact .inl rfl, fun p hp => by simp at hp; subst hp; simpa using h⟩
theorem Okp.cat {a b c d a' b' c' d' A B C D : Nat} {l l' : List Pr} (h : Okp x y a b c d l) (h' : Okp x y a' b' c' d' l') (hs : (b ≤ a' ∧ d ≤ c') ∨ (b' ≤ a ∧ d' ≤ c)) (h1 : A ≤ a ∧ A ≤ a') (h2 : b ≤ B ∧ b' ≤ B) (h3 : C ≤ c ∧ C ≤ c') (h4 : d ≤ D ∧ d' ≤ D) : Okp x y A B C D (l ++ l') := by
  refine ⟨fun p hp => ?_, fun p hp q hq => ?_, fun p hp => ?_⟩
  · rcases List.mem_append.1 hp with hp | hp
    · exact (h.mono h1.1 h2.1 h3.1 h4.1).wn p hp
    · exact (h'.mono h1.2 h2.2 h3.2 h4.2).wn p hp
  · rcases List.mem_append.1 hp with hp | hp <;> rcases List.mem_append.1 hq with hq | hq
    · exact h.ris p hp q hq
    · have e1 := h.wn p hp
      have e2 := h'.wn q hq
      unfold Wn at e1 e2
      rcases hs with hs | hs
      · exact .inr (.inl ⟨by omega, by omega⟩)
      · exact .inr (.inr ⟨by omega, by omega⟩)
    · have e1 := h'.wn p hp
      have e2 := h.wn q hq
      unfold Wn at e1 e2
      rcases hs with hs | hs
      · exact .inr (.inr ⟨by omega, by omega⟩)
      · exact .inr (.inl ⟨by omega, by omega⟩)
    · exact h'.ris p hp q hq
  · rcases List.mem_append.1 hp with hp | hp
    · exact h.eqs p hp
    · exact h'.eqs p hp
theorem fp_ok (a c k : Nat) (h : ∀ i, i < k → x[a + i]? = y[c + i]?) : Okp x y a (a + k) c (c + k) (fp a c k) := by
  induction k generalizing a c with
  | zero => exact Okp.nil _ _ _ _
  | succ k ih => exact (Okp.one (h 0 (by omega))).cat (ih (a + 1) (c + 1) (fun i hi => by have := h (i + 1) (by omega); rw [show a + 1 + i = a + (i + 1) by omega, show c + 1 + i = c + (i + 1) by omega]; exact this)) (.inl ⟨by omega, by omega⟩) ⟨by omega, by omega⟩ ⟨by omega, by omega⟩ ⟨by omega, by omega⟩ ⟨by omega, by omega⟩
theorem bp_ok (b d k : Nat) (hb : k ≤ b) (hd : k ≤ d) (h : ∀ i, i < k → x[b - (i + 1)]? = y[d - (i + 1)]?) : Okp x y (b - k) b (d - k) d (bp b d k) := by
  induction k generalizing b d with
  | zero => exact Okp.nil _ _ _ _
  | succ k ih =>
    have h0 : Okp x y (b - 1) (b - 1 + 1) (d - 1) (d - 1 + 1) [⟨(b - 1 : Nat), (d - 1 : Nat)⟩] := Okp.one (by simpa using h 0 (by omega))
    exact h0.cat (ih (b - 1) (d - 1) (by omega) (by omega) (fun i hi => by have := h (i + 1) (by omega); rw [show b - 1 - (i + 1) = b - (i + 1 + 1) by omega, show d - 1 - (i + 1) = d - (i + 1 + 1) by omega]; exact this)) (.inr ⟨by omega, by omega⟩) ⟨by omega, by omega⟩ ⟨by omega, by omega⟩ ⟨by omega, by omega⟩ ⟨by omega, by omega⟩
theorem lp_ok (K : List Int) : ∀ (a c nx m : Nat), Vk nx m K → (∀ (i q : Nat), K[i]? = some (q : Int) → x[a + i]? = y[c + q]?) → Okp x y a (a + K.length) (c + nx) (c + m) (lp a c K) := by
  induction K with
  | nil => intro a c nx m _ _; exact Okp.nil _ _ _ _
  | cons z K ih =>
    intro a c nx m h hs
    rw [lp]
    simp only [List.length_cons]
    have hs' : ∀ (i q : Nat), K[i]? = some (q : Int) → x[a + 1 + i]? = y[c + q]? := fun i q hi => by
      have := hs (i + 1) q (by simpa using hi)
      rw [show a + 1 + i = a + (i + 1) by omega]
      exact this
    rcases h with ⟨hz, h⟩ | ⟨hz, h1, h2, h⟩
    · rw [if_pos hz, List.nil_append]
      exact (ih (a + 1) c nx m h hs').mono (by omega) (by omega) (by omega) (by omega)
    · rw [if_neg hz]
      obtain ⟨j, rfl⟩ : ∃ j : Nat, z = j := ⟨z.toNat, by omega⟩
      have e1 : Okp x y a (a + 1) (c + j) (c + j + 1) [⟨(a : Int), (c : Int) + (j : Int)⟩] := by simpa using Okp.one (x := x) (y := y) (a := a) (c := c + j) (by simpa using hs 0 j (by simp))
      exact e1.cat (ih (a + 1) c (j + 1) m (by simpa using h) hs') (.inl ⟨by omega, by omega⟩) ⟨by omega, by omega⟩ ⟨by omega, by omega⟩ ⟨by omega, by omega⟩ ⟨by omega, by omega⟩
end
theorem sub_at (x : List Int) (a b i : Nat) (hi : i < b - a) : (sub x a b)[i]? = x[a + i]? := by
  unfold sub
  rw [List.getElem?_take_of_lt hi, List.getElem?_drop]
theorem sub_some {x : List Int} {a b i : Nat} {z : Int} (h : (sub x a b)[i]? = some z) : i < b - a ∧ x[a + i]? = some z := by
  have h1 := (List.getElem?_eq_some_iff.1 h).1
  unfold sub at h1
  rw [List.length_take] at h1
  exact ⟨by omega, by rw [← sub_at x a b i (by omega)]; exact h⟩
/-- what the least script keeps of a middle -/
theorem least_ok (x y : List Int) (a b c d : Nat) (hab : a ≤ b) (hb : b ≤ x.length) (hcd : c ≤ d) (hd : d ≤ y.length) : Okp x y a b c d (lp a c (kp 0 (sub x a b) (sub y c d))) := by
  have h1 := lp_ok (x := x) (y := y) (kp 0 (sub x a b) (sub y c d)) a c 0 (d - c) (by
    have := kp_vk 0 (sub x a b) (sub y c d) (Int.le_refl _)
    rw [sub_length y _ _ (by omega), Int.zero_add] at this
    exact this) (fun i q hq => by
      obtain ⟨_, z, h1, h2⟩ := kp_same 0 _ _ (Int.le_refl _) i q hq (by omega)
      rw [show ((q : Int) - 0).toNat = q by omega] at h2
      rw [(sub_some h1).2, (sub_some h2).2])
  rw [kp_length, sub_length x _ _ (by omega)] at h1
  exact h1.mono (Nat.le_refl _) (by omega) (by omega) (by omega)
theorem ends_ok (x y : List Int) (N : Nat → Nat → Nat → Nat → List Pr) (a b c d : Nat) (hab : a ≤ b) (_ : b ≤ x.length) (hcd : c ≤ d) (_ : d ≤ y.length) (hN : ∀ a' b' c' d', a ≤ a' → a' < b' → b' ≤ b → c ≤ c' → c' < d' → d' ≤ d → Okp x y a' b' c' d' (N a' b' c' d')) : Okp x y a b c d (ends x y N a b c d) := by
  unfold ends
  have hk := tf_le x y a b c d
  have hks := tf_same x y a b c d
  generalize tf x y a b c d = k at hk hks ⊢
  have hm := tb_le x y (a + k) b (c + k) d
  have hms := tb_same x y (a + k) b (c + k) d
  generalize tb x y (a + k) b (c + k) d = m at hm hms ⊢
  have hmid : Okp x y (a + k) (b - m) (c + k) (d - m) (if a + k < b - m ∧ c + k < d - m then N (a + k) (b - m) (c + k) (d - m) else []) := by
    split
    · rename_i h
      exact hN _ _ _ _ (by omega) h.1 (by omega) (by omega) h.2 (by omega)
    · exact Okp.nil _ _ _ _
  have h1 := fp_ok (x := x) (y := y) a c k hks
  have h2 := bp_ok (x := x) (y := y) b d m (by omega) (by omega) hms
  exact h1.cat (h2.cat hmid (.inr ⟨by omega, by omega⟩) (A := a + k) (B := b) (C := c + k) (D := d) ⟨by omega, by omega⟩ ⟨by omega, by omega⟩ ⟨by omega, by omega⟩ ⟨by omega, by omega⟩) (.inl ⟨by omega, by omega⟩) ⟨by omega, by omega⟩ ⟨by omega, by omega⟩ ⟨by omega, by omega⟩ ⟨by omega, by omega⟩
/-- an engine that goes on with shorter pieces keeps what is right, if they do -/
def MOk (M : (Nat → Nat → Nat → Nat → List Pr) → Nat → Nat → Nat → Nat → List Pr) (x y : List Int) : Prop := ∀ (rec : Nat → Nat → Nat → Nat → List Pr) (a b c d : Nat), a < b → b ≤ x.length → c < d → d ≤ y.length → (∀ a' b' c' d', a' ≤ b' → b' ≤ x.length → c' ≤ d' → d' ≤ y.length → Okp x y a' b' c' d' (rec a' b' c' d')) → Okp x y a b c d (M rec a b c d)
theorem pcs_ok {M : (Nat → Nat → Nat → Nat → List Pr) → Nat → Nat → Nat → Nat → List Pr} {x y : List Int} (hM : MOk M x y) (f : Nat) : ∀ a b c d, a ≤ b → b ≤ x.length → c ≤ d → d ≤ y.length → Okp x y a b c d (pcs M x y f a b c d) := by
  induction f with
  | zero => intro a b c d _ _ _ _; exact Okp.nil _ _ _ _
  | succ f ih =>
    intro a b c d hab hb hcd hd
    rw [pcs]
    exact ends_ok x y _ a b c d hab hb hcd hd (fun a' b' c' d' _ h2 h3 _ h5 h6 => hM _ a' b' c' d' h2 (by omega) h5 (by omega) ih)

/-- what stands at a place behind the writing -/
theorem wrk_get (l : List Pr) : ∀ (K : List Int) (i : Nat) (z : Int), (wrk K l)[i]? = some z → K[i]? = some z ∨ ∃ p ∈ l, p.X.toNat = i ∧ p.Y = z := by
  induction l with
  | nil => intro K i z h; exact .inl h
  | cons p l ih =>
    intro K i z h
    rw [wrk_cons] at h
    rcases ih _ i z h with h | ⟨q, hq, h⟩
    · by_cases e : p.X.toNat = i
      · subst e
        by_cases hl : p.X.toNat < K.length
        · rw [List.getElem?_set_self hl] at h
          cases h
          exact .inr ⟨p, List.mem_cons_self .., rfl, rfl⟩
        · rw [List.getElem?_eq_none (by rw [List.length_set]; omega)] at h
          cases h
      · rw [List.getElem?_set_ne e] at h
        exact .inl h
    · exact .inr ⟨q, List.mem_cons_of_mem _ hq, h⟩
theorem vk_of (K : List Int) : ∀ (nx m : Int), (∀ z ∈ K, z = -1 ∨ (nx ≤ z ∧ z < m)) → K.Pairwise (fun z z' => z = -1 ∨ z' = -1 ∨ z < z') → Vk nx m K := by
  induction K with
  | nil => intro _ _ _ _; trivial
  | cons z K ih =>
    intro nx m h1 h2
    have h2' := List.pairwise_cons.1 h2
    by_cases hz : z = -1
    · exact .inl ⟨hz, ih nx m (fun y hy => h1 y (List.mem_cons_of_mem _ hy)) h2'.2⟩
    · have h3 := (h1 z (List.mem_cons_self ..)).resolve_left hz
      refine .inr ⟨hz, h3.1, h3.2, ih (z + 1) m (fun y hy => ?_) h2'.2⟩
      rcases h1 y (List.mem_cons_of_mem _ hy) with e | e
      · exact .inl e
      · rcases h2'.1 y hy with q | q | q
        · exact absurd q hz
        · exact .inl q
        · exact .inr ⟨by omega, e.2⟩
/-- what is written is a keeping -/
theorem wrk_vk {x y : List Int} (n m : Nat) (l : List Pr) (h : Okp x y 0 n 0 m l) : Vk 0 m (wrk (List.replicate n (-1)) l) := by
  have hget : ∀ (i : Nat) (z : Int), (wrk (List.replicate n (-1)) l)[i]? = some z → z = -1 ∨ ∃ p ∈ l, p.X = i ∧ p.Y = z := fun i z hz => by
    rcases wrk_get l _ i z hz with q | ⟨p, hp, q1, q2⟩
    · left
      rw [List.getElem?_replicate] at q
      split at q
      · cases q; rfl
      · cases q
    · have := h.wn p hp
      unfold Wn at this
      exact .inr ⟨p, hp, by omega, q2⟩
  refine vk_of _ 0 m (fun z hz => ?_) (List.pairwise_iff_getElem.2 fun i j hi hj hij => ?_)
  · obtain ⟨i, hi, e⟩ := List.getElem_of_mem hz
    rcases hget i z (by rw [List.getElem?_eq_getElem hi, e]) with q | ⟨p, hp, _, q2⟩
    · exact .inl q
    · have := h.wn p hp
      unfold Wn at this
      exact .inr ⟨by omega, by omega⟩
  · rcases hget i _ (List.getElem?_eq_getElem hi) with q | ⟨p, hp, p1, p2⟩
    · exact .inl q
    · rcases hget j _ (List.getElem?_eq_getElem hj) with q | ⟨q, hq, q1, q2⟩
      · exact .inr (.inl q)
      · refine .inr (.inr ?_)
        rw [← p2, ← q2]
        rcases h.ris p hp q hq with e | e | e
        · subst e
          omega
        · exact e.2
        · have := e.1
          omega

/-- what is written of pairs is found there -/
theorem wrk_has (l : List Pr) (n : Nat) (hr : Ris l) (hw : ∀ p ∈ l, 0 ≤ p.X ∧ p.X < n) : ∀ K : List Int, K.length = n → ∀ p ∈ l, (wrk K l)[p.X.toNat]? = some p.Y := by
  induction l with
  | nil => intro K _ p hp; simp at hp
  | cons q l ih =>
    intro K hK p hp
    rw [wrk_cons]
    have ih' := ih (fun a ha b hb => hr a (List.mem_cons_of_mem _ ha) b (List.mem_cons_of_mem _ hb)) (fun a ha => hw a (List.mem_cons_of_mem _ ha)) (K.set q.X.toNat q.Y) (by rw [List.length_set]; exact hK)
    by_cases h : p ∈ l
    · exact ih' p h
    · have e : p = q := (List.mem_cons.1 hp).resolve_right h
      subst e
      have hb := hw p (List.mem_cons_self ..)
      by_cases hx : ∃ r ∈ l, r.X.toNat = p.X.toNat
      · obtain ⟨r, h1, h2⟩ := hx
        have hrb := hw r (List.mem_cons_of_mem _ h1)
        rcases hr p (List.mem_cons_self ..) r (List.mem_cons_of_mem _ h1) with e | e | e
        · subst e; exact ih' p h1
        · have := e.1; omega
        · have := e.1; omega
      · rw [wrk_comm K l _ _ (fun r h1 h2 => hx ⟨r, h1, h2⟩), List.getElem?_set_self (by rw [wrk_length]; omega)]
/-- what both texts keep: all that the laws ask -/
theorem hon_le (K : List Int) : ∀ (x y : List Int) (nx : Nat), Vk nx y.length K → K.length = x.length → (∀ (i q : Nat), K[i]? = some (q : Int) → x[i]? = y[q]?) → prs K ≤ lc x (y.drop nx) := by
  induction K with
  | nil => intro x y nx _ _ _; simp [prs]
  | cons z K ih =>
    intro x y nx hV hl hs
    cases x with
    | nil => simp at hl
    | cons e x =>
      have hs' : ∀ (i q : Nat), K[i]? = some (q : Int) → x[i]? = y[q]? := fun i q hi => by simpa using hs (i + 1) q (by simpa using hi)
      rcases hV with ⟨hz, h⟩ | ⟨hz, h1, h2, h⟩
      · subst hz
        have := ih x y nx h (by simpa using hl) hs'
        have h2 := lc_mono (List.sublist_cons_self e x) (List.Sublist.refl (y.drop nx))
        have h3 : prs (-1 :: K) = prs K := by simp [prs]
        omega
      · obtain ⟨q, rfl⟩ : ∃ j : Nat, z = j := ⟨z.toNat, by omega⟩
        have hq : q < y.length := by omega
        have h0 := hs 0 q (by simp)
        rw [List.getElem?_eq_getElem hq] at h0
        simp at h0
        have := ih x y (q + 1) (by simpa using h) (by simpa using hl) hs'
        have e2 : y.drop q = e :: y.drop (q + 1) := by rw [List.drop_eq_getElem_cons hq, h0]
        have h4 : lc (e :: x) (y.drop q) = lc x (y.drop (q + 1)) + 1 := by rw [e2, lc_ahead]
        have h5 : (y.drop q).Sublist (y.drop nx) := by
          rw [show q = nx + (q - nx) by omega, ← List.drop_drop]
          exact List.drop_sublist _ _
        have h6 := lc_mono (List.Sublist.refl (e :: x)) h5
        have h7 : prs ((q : Int) :: K) = prs K + 1 := by simp [prs]
        omega
theorem mk_id (n : Nat) : mkL ((List.range n).map fun (j : Nat) => (0 : Int) + (j : Int)) n = [] := by
  unfold mkL
  rw [keptR_run 0 0 (Int.le_refl _)]
  have := betw_un 0 0 n [⟨(n : Int), (n : Int), 0⟩]
  simp at this ⊢
  first | (rw [this]; simp [betw]) | simpa [betw] using this
/-- no changes: the same texts -/
theorem nil_same {K x y : List Int} (hV : Vk 0 y.length K) (hl : K.length = x.length) (hs : ∀ (i q : Nat), K[i]? = some (q : Int) → x[i]? = y[q]?) (hx : x.length ≤ 4096) (hy : y.length ≤ 4096) (h : mkL K y.length = []) : x = y := by
  obtain ⟨⟨_, _, hS⟩, hU⟩ := mk_script hV (by omega) (by omega) (by rw [hl]; omega)
  rw [h] at hS hU
  rw [U_nil] at hU
  have hnm : x.length = y.length := by
    have h1 := hS.2.2
    rw [hl] at h1
    omega
  apply List.ext_getElem? 
  intro i
  by_cases hi : i < x.length
  · have hm : (⟨(i : Int), (i : Int), 1⟩ : Rn) ∈ keptR 0 K := by
      rw [← hU, mem_un]
      rw [hl]
      refine ⟨rfl, ?_, ?_, ?_⟩ <;> dsimp only <;> omega
    rw [mem_keptR] at hm
    obtain ⟨_, _, h3, _⟩ := hm
    dsimp only at h3
    rw [show ((i : Int) - 0).toNat = i by omega] at h3
    exact hs i i h3
  · rw [List.getElem?_eq_none (by omega), List.getElem?_eq_none (by omega)]
/-- what is kept at the front: the first change stands behind it -/
theorem front_le {K : List Int} {m : Nat} (hV : Vk 0 m K) (hl : K.length ≤ 4096) (hm : m ≤ 4096) {c : Ch} {L : List Ch} (h : mkL K m = c :: L) (k : Nat) (hk : ∀ i, i < k → K[i]? = some (i : Int)) : (k : Int) ≤ c.A := by
  obtain ⟨hS, hkm, _⟩ := keep_mk hV (by omega) (by omega) (by omega)
  rw [h] at hS hkm
  have hR := hS.2.2
  obtain ⟨⟨h1, h2, h3, h4⟩, h5⟩ := hR
  rw [numB_iff] at h1
  refine Int.not_lt.1 fun hlt => ?_
  have hA := hk c.A.toNat (by omega)
  have e : keepL (c :: L) K.length m = kr 0 0 K.length m (c :: L) := rfl
  rw [e, kr_cons] at hkm
  by_cases hAN : 0 < c.AN
  · rw [← hkm, List.getElem?_append_left (by simp; omega), List.getElem?_append_right (by simp)] at hA
    simp [List.getElem?_replicate] at hA
    omega
  · have hrest : (kr (c.A + c.AN) (c.B + c.BN) K.length m L)[0]? = some c.A := by
      rw [← hkm, List.getElem?_append_right (by simp; omega)] at hA
      simp at hA
      rw [hA]
      congr 1
      omega
    have hmem : (⟨c.A + c.AN, c.A, 1⟩ : Rn) ∈ keptR (c.A + c.AN) (kr (c.A + c.AN) (c.B + c.BN) K.length m L) := by
      rw [mem_keptR]
      refine ⟨rfl, Int.le_refl _, ?_, by dsimp only; omega⟩
      dsimp only
      rw [show (c.A + c.AN - (c.A + c.AN)).toNat = 0 by omega]
      exact hrest
    rw [kr_kept h5 (by omega)] at hmem
    have := h5.bounds _ hmem
    dsimp only at this
    omega
/-- all that is written of a right list of pairs -/
structure Kpt (x y K : List Int) : Prop where
  vk : Vk 0 y.length K
  len : K.length = x.length
  eqs : ∀ (i q : Nat), K[i]? = some (q : Int) → x[i]? = y[q]?
theorem Okp.kpt {x y : List Int} {l : List Pr} (h : Okp x y 0 x.length 0 y.length l) : Kpt x y (wrk (List.replicate x.length (-1)) l) := by
  refine ⟨wrk_vk _ _ _ h, by rw [wrk_length]; simp, fun i q hq => ?_⟩
  rcases wrk_get l _ i q hq with e | ⟨p, hp, e1, e2⟩
  · rw [List.getElem?_replicate] at e
    split at e
    · simp at e
    · cases e
  · have h1 := h.eqs p hp
    rw [e1, e2] at h1
    simpa using h1
theorem Okp.at {x y : List Int} {l : List Pr} (h : Okp x y 0 x.length 0 y.length l) {p : Pr} (hp : p ∈ l) : (wrk (List.replicate x.length (-1)) l)[p.X.toNat]? = some p.Y :=
  wrk_has l x.length h.ris (fun q hq => by have := h.wn q hq; unfold Wn at this; omega) _ (by simp) p hp
theorem mem_fp {a c k : Nat} {p : Pr} : p ∈ fp a c k ↔ ∃ i, i < k ∧ p = ⟨(a + i : Nat), (c + i : Nat)⟩ := by
  induction k generalizing a c with
  | zero => simp [fp]
  | succ k ih =>
    rw [fp, List.mem_cons, ih]
    constructor
    · rintro (rfl | ⟨i, hi, rfl⟩)
      · exact ⟨0, by omega, by simp⟩
      · exact ⟨i + 1, by omega, by rw [show a + 1 + i = a + (i + 1) by omega, show c + 1 + i = c + (i + 1) by omega]⟩
    · rintro ⟨i, hi, rfl⟩
      cases i with
      | zero => left; simp
      | succ i => exact .inr ⟨i, by omega, by rw [show a + 1 + i = a + (i + 1) by omega, show c + 1 + i = c + (i + 1) by omega]⟩
theorem tf_all (x : List Int) (a b : Nat) : tf x x a b a b = b - a := by
  induction h : b - a generalizing a with
  | zero => rw [tf_eq, if_neg (by omega)]
  | succ n ih => rw [tf_eq, if_pos ⟨by omega, by omega, rfl⟩, ih (a + 1) (by omega)]
end Go.Proofs.YtgiojkhmkeocfaaGreatDoor

/- Pieces of slices of numbers, as values and as what they hold. -/
set_option maxRecDepth 20000
namespace Go.Proofs.YtgiojkhmkeocfaaGreatDoor
open Go.RowKit

theorem cell_low {u u' : World} (h : Below u.heap.size u u') {a : Addr} {v : Value} (hc : u.cell? a = some v) : u'.cell? a = some v := by
  rw [World.cell?_of_block (w := u) (h.block _ (World.block_lt_of_cell? u _ hc))]
  exact hc
theorem addr_zero (ad : Addr) : ad.add 0 = ad := by unfold Addr.add; split <;> simp_all
/-- x[k:], x[:k] of a slice of numbers, as values -/
def slF (ao : Option Addr) (cap k : Nat) : Option Addr := if cap = k then ao else ao.map (·.add k)
theorem run_slF (ao : Option Addr) (n cap k : Nat) (hk : k ≤ n) (_ : n ≤ cap) (u : World) : (Instr.slice 71 (.slice ao n cap) (some (.int .i64 (k : Int))) none none).run Tryz.prog u = .ok (.slice (slF ao cap k) (n - k) (cap - k)) u := by
  rw [run_slice_l (P := Tryz.prog) u 71 ao n cap (by kernel_rfl) .i64 k (by omega) (by omega)]
  have : (sizeOf (Tryz.prog.elem 71)).run Tryz.prog u = .ok 1 u := by kernel_rfl
  rw [this]
  simp [Result.andThen, sliced, slF]
theorem run_slT (ao : Option Addr) (n cap k : Nat) (hk : k ≤ n) (hn : n ≤ cap) (u : World) : (Instr.slice 71 (.slice ao n cap) none (some (.int .i64 (k : Int))) none).run Tryz.prog u = .ok (.slice ao k cap) u := by
  rw [run_slice_h (P := Tryz.prog) u 71 ao n cap (by kernel_rfl) .i64 k (by omega) (by omega)]
  have : (sizeOf (Tryz.prog.elem 71)).run Tryz.prog u = .ok 1 u := by kernel_rfl
  rw [this]
  cases ao with
  | none => simp [Result.andThen, sliced]
  | some ad => simp [Result.andThen, sliced, addr_zero]
theorem hold_cap {w : World} {ao : Option Addr} {n c : Nat} {xs : List Value} (h : Holds w (.slice ao n c) n xs) : n ≤ c := by
  rcases h with ⟨h, h0, _⟩ | ⟨ad, c', h, h3, _⟩
  · omega
  · cases h; exact h3
theorem hold_from {w : World} {ao : Option Addr} {n c k : Nat} {L : List Int} (h : Holds w (.slice ao n c) n (icells L)) (hl : L.length = n) (hk : k ≤ n) : Holds w (.slice (slF ao c k) (n - k) (c - k)) (n - k) (icells (L.drop k)) := by
  have hnc := hold_cap h
  rcases h with ⟨h, h0, h4⟩ | ⟨ad, c', h, h3, hc⟩
  · cases h
    have : L = [] := by simpa [icells] using h4
    subst this
    have : k = 0 := by omega
    subst this
    exact .inl ⟨by simp [slF], by simp, by simp [icells]⟩
  · cases h
    refine .inr ⟨if c = k then ad else ad.add k, c - k, by unfold slF; split <;> simp, by omega, fun j v hj => ?_⟩
    have hj' : (icells L)[k + j]? = some v := by
      simp only [icells, List.map_drop, List.getElem?_drop] at hj ⊢
      exact hj
    have hlt := (List.getElem?_eq_some_iff.1 hj').1
    rw [icells_length] at hlt
    rw [if_neg (by omega)]
    have h0 := hc 0 _ (List.getElem?_eq_getElem (by rw [icells_length]; omega))
    obtain ⟨b, off, rfl⟩ := addr_of h0
    have := hc _ _ hj'
    rw [add_none] at this
    rw [add_none, add_none, Nat.add_assoc]
    exact this
theorem hold_to {w : World} {ao : Option Addr} {n c k : Nat} {L : List Int} (h : Holds w (.slice ao n c) n (icells L)) (hl : L.length = n) (hk : k ≤ n) : Holds w (.slice ao k c) k (icells (L.take k)) := by
  have hnc := hold_cap h
  rcases h with ⟨h, h0, h4⟩ | ⟨ad, c', h, h3, hc⟩
  · cases h
    have : L = [] := by simpa [icells] using h4
    subst this
    have : k = 0 := by omega
    subst this
    exact .inl ⟨by simp, by simp, by simp [icells]⟩
  · cases h
    refine .inr ⟨ad, c, rfl, by omega, fun j v hj => hc j v ?_⟩
    rw [icells, List.map_take] at hj
    rw [icells]
    by_cases hjk : j < k
    · rw [List.getElem?_take_of_lt hjk] at hj
      exact hj
    · rw [List.getElem?_eq_none (by simp; omega)] at hj
      cases hj
theorem sub_drop (x : List Int) (a b k : Nat) : (sub x a b).drop k = sub x (a + k) b := by
  unfold sub
  rw [List.drop_take, List.drop_drop]
  congr 1
  omega
theorem sub_take (x : List Int) (a b k : Nat) (hk : a + k ≤ b) : (sub x a b).take k = sub x a (a + k) := by
  unfold sub
  rw [List.take_take]
  congr 1
  omega
theorem sub_all (x : List Int) : sub x 0 x.length = x := by simp [sub]

theorem run_slB (ao : Option Addr) (n cap l h : Nat) (hl : l ≤ h) (hh : h ≤ n) (hn : n ≤ cap) (u : World) : (Instr.slice 71 (.slice ao n cap) (some (.int .i64 (l : Int))) (some (.int .i64 (h : Int))) none).run Tryz.prog u = .ok (.slice (slF ao cap l) (h - l) (cap - l)) u := by
  rw [run_slice_lh (P := Tryz.prog) u 71 ao n cap (by kernel_rfl) .i64 .i64 l h (by omega) (by omega) (by omega)]
  have : (sizeOf (Tryz.prog.elem 71)).run Tryz.prog u = .ok 1 u := by kernel_rfl
  rw [this]
  have e : (h : Int).toNat - (l : Int).toNat = h - l := by omega
  simp [Result.andThen, sliced, slF]
theorem hold_sub {w : World} {ao : Option Addr} {c l h : Nat} {x : List Int} (hx : HI w (.slice ao x.length c) x) (hl : l ≤ h) (hh : h ≤ x.length) : Holds w (.slice (slF ao c l) (h - l) (c - l)) (h - l) (icells (sub x l h)) := by
  have h1 := hold_from hx rfl (Nat.le_trans hl hh)
  have h2 := hold_to h1 (k := h - l) (by simp) (by omega)
  exact h2
/-- a row of one's own from B on is kept, where a block below B is written -/
theorem holds_grown {u u' : World} {B n : Nat} {e : TypeId} {s : Nat} {v : Value} {xs : List Value} (h : u.ownsRow B e s v n xs) {g : Nat} (hg : u.grownBy u' (some g)) (hB : g < B) : u'.ownsRow B e s v n xs := by
  refine h.kept hg ?_
  cases hb : v.ownBlock with
  | none => exact .inl rfl
  | some j =>
    have := owns_ge h hb
    exact .inr (fun q => by cases q; omega)
theorem Ls.lt {w u : World} {g n : Nat} {Z : List Int} (h : Ls w g n Z u) : w.heap.size ≤ g ∧ g < u.heap.size := by
  rcases h.own.2 with ⟨h1, _⟩ | ⟨g', cap, cur, h1, h2, h3, _⟩
  · cases h1
  · cases h1
    exact ⟨h2, (Array.getElem?_eq_some_iff.1 h3).1⟩
end Go.Proofs.YtgiojkhmkeocfaaGreatDoor

/- The package pieces: a piece as a value; Empty, UpTo, From, Keep, walked. -/
set_option maxRecDepth 20000
namespace Go.Proofs.YtgiojkhmkeocfaaGreatDoor
open Go.RowKit

/-- a piece as a value: x from a up to b, y from c up to d; the row of what is kept lies in block g -/
def pzV (xo : Option Addr) (nx xc : Nat) (yo : Option Addr) (ny yc : Nat) (c : Nat) (ko : Option Addr) (kc : Nat) : Value := .agg #[.slice xo nx xc, .slice yo ny yc, .int .i64 c, .slice ko nx kc]
structure Pz (W0 : World) (g : Nat) (x y : List Int) (a b c d : Nat) (xo : Option Addr) (nx xc : Nat) (yo : Option Addr) (ny yc : Nat) (ko : Option Addr) (kc : Nat) : Prop where
  eb : b = a + nx
  ed : d = c + ny
  bx : b ≤ x.length
  dy : d ≤ y.length
  hx : Holds W0 (.slice xo nx xc) nx (icells (sub x a b))
  hy : Holds W0 (.slice yo ny yc) ny (icells (sub y c d))
  hk : nx ≤ kc
  at' : 0 < nx → ko = some ⟨g, a, none⟩
section
variable {W0 : World} {g : Nat} {x y : List Int} {a b c d : Nat} {xo : Option Addr} {nx xc : Nat} {yo : Option Addr} {ny yc : Nat} {ko : Option Addr} {kc : Nat}
theorem Pz.from (h : Pz W0 g x y a b c d xo nx xc yo ny yc ko kc) {i j : Nat} (hi : i ≤ nx) (hj : j ≤ ny) : Pz W0 g x y (a + i) b (c + j) d (slF xo xc i) (nx - i) (xc - i) (slF yo yc j) (ny - j) (yc - j) (slF ko kc i) (kc - i) := by
  have e1 := h.eb
  have e2 := h.ed
  have e3 := h.hk
  refine ⟨by omega, by omega, h.bx, h.dy, ?_, ?_, by omega, fun h0 => ?_⟩
  · rw [← sub_drop]
    exact hold_from h.hx (by rw [sub_length x a b h.bx]; omega) hi
  · rw [← sub_drop]
    exact hold_from h.hy (by rw [sub_length y c d h.dy]; omega) hj
  · rw [h.at' (by omega), slF, if_neg (by omega), Option.map_some, add_none]
theorem Pz.to (h : Pz W0 g x y a b c d xo nx xc yo ny yc ko kc) {i j : Nat} (hi : i ≤ nx) (hj : j ≤ ny) : Pz W0 g x y a (a + i) c (c + j) xo i xc yo j yc ko kc := by
  have e1 := h.eb
  have e2 := h.ed
  have e3 := h.hk
  have e4 := h.bx
  have e5 := h.dy
  refine ⟨rfl, rfl, by omega, by omega, ?_, ?_, by omega, fun h0 => h.at' (by omega)⟩
  · rw [← sub_take x a b i (by omega)]
    exact hold_to h.hx (by rw [sub_length x a b h.bx]; omega) hi
  · rw [← sub_take y c d j (by omega)]
    exact hold_to h.hy (by rw [sub_length y c d h.dy]; omega) hj
end

theorem Empty_f (xo : Option Addr) (nx xc : Nat) (yo : Option Addr) (ny yc c : Nat) (ko : Option Addr) (kc : Nat) (w : World) (r : Bool) (hr : Hid (r = decide (nx = 0 ∨ ny = 0))) :
    Calls Tryz.prog 183 #[pzV xo nx xc yo ny yc c ko kc] w fun e w' => e = .returned (.bool r) ∧ Below w.heap.size w w' := by
  unfold pzV
  by_cases h0 : nx = 0
  · subst h0
    obtain rfl : r = true := by rw [hr.out]; simp
    clear hr
    go_enter Tryz.func183, Tryz.ntmps183
    go_wp2
    go_ret
    exact ⟨rfl, (Below.refl _ w).alloc (Nat.le_refl _) _⟩
  · have e1 : decide ((nx : Int) = 0) = false := decide_eq_false (by omega)
    have e2 : decide (nx = 0) = false := decide_eq_false (by omega)
    have e3 : ((nx : Int) == 0) = false := by simp; omega
    by_cases h1 : ny = 0
    · subst h1
      obtain rfl : r = true := by rw [hr.out]; simp
      clear hr h0
      go_enter Tryz.func183, Tryz.ntmps183
      go_wp2
      go_ret
      exact ⟨rfl, (Below.refl _ w).alloc (Nat.le_refl _) _⟩
    · have e4 : decide ((ny : Int) = 0) = false := decide_eq_false (by omega)
      have e6 : ((ny : Int) == 0) = false := by simp; omega
      have e5 : decide (ny = 0) = false := decide_eq_false (by omega)
      obtain rfl : r = false := by rw [hr.out]; simp [h0, h1]
      clear hr h0 h1
      go_enter Tryz.func183, Tryz.ntmps183
      go_wp2
      go_ret
      exact ⟨rfl, (Below.refl _ w).alloc (Nat.le_refl _) _⟩

set_option maxHeartbeats 2000000 in
theorem UpTo_f (xo : Option Addr) (nx xc : Nat) (yo : Option Addr) (ny yc c : Nat) (ko : Option Addr) (kc : Nat) (w : World) (i j : Nat) (hi : i ≤ nx) (hj : j ≤ ny) (hxc : nx ≤ xc) (hyc : ny ≤ yc) (hkc : nx ≤ kc) :
    Calls Tryz.prog 187 #[pzV xo nx xc yo ny yc c ko kc, .int .i64 (i : Int), .int .i64 (j : Int)] w fun e w' => e = .returned (pzV xo i xc yo j yc c ko kc) ∧ Below w.heap.size w w' := by
  unfold pzV
  have r1 := run_slT xo nx xc i hi hxc
  have r2 := run_slT yo ny yc j hj hyc
  have r3 := run_slT ko nx kc i hi hkc
  clear hi hj hxc hyc hkc
  go_enter Tryz.func187, Tryz.ntmps187
  go_wp2
  go_region
  go_wp2
  have k2 := alloc_second w (Obj.cells #[.slice xo nx xc, .slice yo ny yc, .int .i64 c, .slice ko nx kc] 243) (Obj.cells #[.slice xo i xc, .slice yo j yc, .int .i64 c, .slice ko i kc] 243)
  exact bodyPost_ret (v := .agg #[.slice xo i xc, .slice yo j yc, .int .i64 c, .slice ko i kc]) (results_cell_row rfl _ _ (w.heap.size + 1) 243 #[.slice xo i xc, .slice yo j yc, .int .i64 c, .slice ko i kc] (0, 0) _ rfl k2 Tryz.underlying243 rfl (by kernel_rfl)) rfl ⟨rfl, (((Below.refl _ w).alloc (Nat.le_refl _) _).alloc (by simp) _).drew⟩

set_option maxHeartbeats 2000000 in
theorem From_f (xo : Option Addr) (nx xc : Nat) (yo : Option Addr) (ny yc c : Nat) (ko : Option Addr) (kc : Nat) (w : World) (i j : Nat) (hi : i ≤ nx) (hj : j ≤ ny) (hxc : nx ≤ xc) (hyc : ny ≤ yc) (hkc : nx ≤ kc) (hc : c + j ≤ 1048576) :
    Calls Tryz.prog 188 #[pzV xo nx xc yo ny yc c ko kc, .int .i64 (i : Int), .int .i64 (j : Int)] w fun e w' => e = .returned (pzV (slF xo xc i) (nx - i) (xc - i) (slF yo yc j) (ny - j) (yc - j) (c + j) (slF ko kc i) (kc - i)) ∧ Below w.heap.size w w' := by
  unfold pzV
  have r1 := run_slF xo nx xc i hi hxc
  have r2 := run_slF yo ny yc j hj hyc
  have r3 := run_slF ko nx kc i hi hkc
  generalize slF xo xc i = xo' at *
  generalize slF yo yc j = yo' at *
  generalize slF ko kc i = ko' at *
  generalize nx - i = nx' at *
  generalize ny - j = ny' at *
  generalize xc - i = xc' at *
  generalize yc - j = yc' at *
  generalize kc - i = kc' at *
  obtain ⟨c', hc'⟩ : ∃ c', c + j = c' := ⟨_, rfl⟩
  have n1 : (c : Int) + (j : Int) = (c' : Int) := by omega
  rw [hc']
  clear hi hj hxc hyc hkc hc'
  go_enter Tryz.func188, Tryz.ntmps188
  go_wp2
  go_region
  go_wp2
  have k2 := alloc_second w (Obj.cells #[.slice xo nx xc, .slice yo ny yc, .int .i64 c, .slice ko nx kc] 243) (Obj.cells #[.slice xo' nx' xc', .slice yo' ny' yc', .int .i64 c', .slice ko' nx' kc'] 243)
  exact bodyPost_ret (v := .agg #[.slice xo' nx' xc', .slice yo' ny' yc', .int .i64 c', .slice ko' nx' kc']) (results_cell_row rfl _ _ (w.heap.size + 1) 243 #[.slice xo' nx' xc', .slice yo' ny' yc', .int .i64 c', .slice ko' nx' kc'] (0, 0) _ rfl k2 Tryz.underlying243 rfl (by kernel_rfl)) rfl ⟨rfl, (((Below.refl _ w).alloc (Nat.le_refl _) _).alloc (by simp) _).drew⟩

theorem fp_snoc (a c k : Nat) : fp a c (k + 1) = fp a c k ++ [⟨(a + k : Nat), (c + k : Nat)⟩] := by
  induction k generalizing a c with
  | zero => simp [fp]
  | succ k ih =>
    rw [fp, ih (a + 1) (c + 1), fp]
    simp
    omega
/-- a piece in a box -/
def Qbx (u : World) (B : Nat) (v0 v1 v2 v3 : Value) : Prop := u.heap[B]? = some (.cells #[v0, v1, v2, v3] 243 (0, 0))
section
variable {u u' : World} {B : Nat} {v0 v1 v2 v3 : Value}
theorem Qbx.cells (h : Qbx u B v0 v1 v2 v3) : u.cell? ⟨B, 0, none⟩ = some v0 ∧ u.cell? ⟨B, 1, none⟩ = some v1 ∧ u.cell? ⟨B, 2, none⟩ = some v2 ∧ u.cell? ⟨B, 3, none⟩ = some v3 := by
  refine ⟨?_, ?_, ?_, ?_⟩ <;> rw [Lib.cell_of_heap h] <;> rfl
theorem Qbx.frozen (h : Qbx u B v0 v1 v2 v3) (j : Nat) : u.frozen? ⟨B, j, none⟩ = false := by
  unfold World.frozen?
  rw [h]
  rfl
theorem Qbx.lt (h : Qbx u B v0 v1 v2 v3) : B < u.heap.size := (Array.getElem?_eq_some_iff.1 h).1
theorem Qbx.keep (h : Qbx u B v0 v1 v2 v3) {r : Option Nat} (hg : u.grownBy u' r) (hr : some B ≠ r) : Qbx u' B v0 v1 v2 v3 := (hg.block B h.lt hr).trans h
theorem Qbx.low (h : Qbx u B v0 v1 v2 v3) (hg : Below u.heap.size u u') : Qbx u' B v0 v1 v2 v3 := (hg.block B h.lt).trans h
theorem Qbx.drewN (h : Qbx u B v0 v1 v2 v3) (k : Nat) : Qbx (u.drewN k) B v0 v1 v2 v3 := h
theorem Qbx.new (w : World) (v0 v1 v2 v3 : Value) : Qbx (w.alloc (.cells #[v0, v1, v2, v3] 243)) w.heap.size v0 v1 v2 v3 := _root_.Go.heap_alloc_new w _
theorem Qbx.put (h : Qbx u B v0 v1 v2 v3) (z0 z1 z2 z3 : Value) : Qbx ((((u.setCell ⟨B, 0, none⟩ z0).setCell ⟨B, 1, none⟩ z1).setCell ⟨B, 2, none⟩ z2).setCell ⟨B, 3, none⟩ z3) B z0 z1 z2 z3 := by
  have s1 := heap_setCell_same u B 0 _ _ z0 h
  have s2 := heap_setCell_same _ B 1 _ _ z1 s1
  have s3 := heap_setCell_same _ B 2 _ _ z2 s2
  exact heap_setCell_same _ B 3 _ _ z3 s3
end
set_option maxHeartbeats 2000000 in
theorem Keep_f {W0 : World} {g N : Nat} (K : List Int) (xo : Option Addr) (nx xc : Nat) (yo : Option Addr) (ny yc a c : Nat) (ko : Option Addr) (kc : Nat) (w : World) (i j n : Nat) (hS : Ls W0 g N K w) (hko : 0 < nx → ko = some ⟨g, a, none⟩) (haN : a + nx ≤ N) (hN : N ≤ 1048576) (hin : i + n ≤ nx) (hc : c + j + n ≤ 1048576) :
    Calls Tryz.prog 189 #[pzV xo nx xc yo ny yc c ko kc, .int .i64 (i : Int), .int .i64 (j : Int), .int .i64 (n : Int)] w fun e w' => e = .returned (.tuple #[]) ∧ Ls W0 g N (wrk K (fp (a + i) (c + j) n)) w' ∧ w.grownBy w' (some g) := by
  unfold pzV
  have hgw := hS.lt
  have hS0 := hS.keep ((Below.refl _ w).alloc (Nat.le_refl _) (.cells #[.slice xo nx xc, .slice yo ny yc, .int .i64 c, .slice ko nx kc] 243))
  have hG0 := low_grown ((Below.refl _ w).alloc (Nat.le_refl _) (.cells #[.slice xo nx xc, .slice yo ny yc, .int .i64 c, .slice ko nx kc] 243)) (some g)
  have hQ0 := Qbx.new w (.slice xo nx xc) (.slice yo ny yc) (.int .i64 c) (.slice ko nx kc)
  go_enter Tryz.func189, Tryz.ntmps189
  go_wp2
  go_loopw [10] (fun iv wr => ∃ k : Nat, k ≤ n ∧ iv = .int .i64 k ∧ Ls W0 g N (wrk K (fp (a + i) (c + j) k)) wr ∧ w.grownBy wr (some g) ∧ Qbx wr w.heap.size (.slice xo nx xc) (.slice yo ny yc) (.int .i64 c) (.slice ko nx kc)) (fun iv _ => n - (intOf iv).toNat)
  case atStart => exact ⟨0, Nat.zero_le _, rfl, hS0, hG0, hQ0⟩
  case round =>
    clear hS0 hG0 hQ0 hS
    obtain ⟨k, hk, rfl, hS, hG, hQ⟩ := hrel
    by_cases hlt : k < n
    · obtain rfl := hko (by omega)
      obtain ⟨c0, c1, c2, c3⟩ := hQ.cells
      obtain ⟨q, hq⟩ : ∃ q, i + k = q := ⟨_, rfl⟩
      obtain ⟨z, hz⟩ : ∃ z, c + j + k = z := ⟨_, rfl⟩
      obtain ⟨z', hz'⟩ : ∃ z, c + j = z := ⟨_, rfl⟩
      have n1 : (i : Int) + (k : Int) = (q : Int) := by omega
      have n2 : (c : Int) + (j : Int) = (z' : Int) := by omega
      have n3 : (z' : Int) + (k : Int) = (z : Int) := by omega
      have i1 : 0 ≤ (q : Int) := by omega
      have i2 : (q : Int) < (nx : Int) := by omega
      have i3 : (k : Int) < (n : Int) := by omega
      have hl := hS.len
      have d0 := hS.at (List.getElem?_eq_getElem (i := a + q) (by omega))
      have f0 := hS.own.frozenAt (a + q)
      have hS1 := hS.set (a + q) (z : Int)
      have hG1 : w.grownBy (wr.setCell ⟨g, a + q, none⟩ (.int .i64 (z : Int))) (some g) := hG.trans (grown_set wr g (a + q) _)
      have hQ1 := hQ.keep (grown_set wr g (a + q) (.int .i64 (z : Int))) (by simp; omega)
      have HE : Hid ((wrk K (fp (a + i) (c + j) k)).set (a + q) (z : Int) = wrk K (fp (a + i) (c + j) (k + 1))) := (by
        show _ = _
        rw [fp_snoc, wrk_append, ← hz, ← hq]
        simp only [wrk, List.foldl_cons, List.foldl_nil]
        congr 1
        omega)
      generalize (wrk K (fp (a + i) (c + j) k))[a + q] = z0 at d0
      clear hl hq hz hz' hko
      go_wp2
      go_roundw
      case rel => exact ⟨k + 1, by omega, by go_num, by rw [← HE.out]; exact hS1, hG1, hQ1⟩
      case measure => simp [intOf]; omega
    · obtain rfl : k = n := by omega
      go_wp2
      go_end0
      exact ⟨rfl, hS, hG⟩
end Go.Proofs.YtgiojkhmkeocfaaGreatDoor
