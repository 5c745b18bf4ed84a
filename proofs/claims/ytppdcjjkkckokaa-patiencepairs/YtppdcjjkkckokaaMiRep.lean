/-
  A row of one number, again and again: bits.Mul, slices.Repeat, walked.
-/
import Derived.Test.YtppdcjjkkckokaaMiLc
import Derived.Laws.CopyOwn
import Derived.Laws.Bits64b
namespace Go.Proofs.Ytppdcjjkkckokaa
open Go.RowKit
attribute [local simp] low_drew

set_option maxHeartbeats 1000000 in
theorem Mul64_one (n : Nat) (hn : n ≤ 1048576) (w : World) :
    Calls Try.prog 78 #[.int .u64 1, .int .u64 (n : Int)] w fun e w' => e = .returned (.tuple #[.int .u64 0, .int .u64 (n : Int)]) ∧ w = w' := by
  have b1 : bits BinOp.and IntKind.u64 1 4294967295 = 1 := by decide
  have b0 : bits BinOp.and IntKind.u64 0 4294967295 = 0 := by decide
  have b2 : bits BinOp.and IntKind.u64 (n : Int) 4294967295 = (n : Int) := by
    have h := bits_and_u64_nat n 4294967295 (by omega) (by omega)
    have e : n &&& 4294967295 = n % 4294967296 := Nat.and_two_pow_sub_one_eq_mod n 32
    rw [e, Nat.mod_eq_of_lt (by omega)] at h
    exact h
  have d1 : (n : Int) / 4294967296 = 0 := by omega
  go_enter Try.func78, Try.ntmps78
  go_wp2
  go_ret2
  exact ⟨rfl, rfl⟩
set_option maxHeartbeats 1000000 in
theorem Mul_one (n : Nat) (hn : n ≤ 1048576) (w : World) :
    Calls Try.prog 72 #[.int .u64 1, .int .u64 (n : Int)] w fun e w' => e = .returned (.tuple #[.int .u64 0, .int .u64 (n : Int)]) ∧ w = w' := by
  go_enter Try.func72, Try.ntmps72
  go_wp2_with fail
  refine (Mul64_one n hn w).mono ?_
  rintro e w' ⟨rfl, rfl⟩
  go_wp2
  go_ret2
  exact ⟨rfl, rfl⟩

theorem run_makeI (N : Nat) (hN : N ≤ 1099511627776) (W : World) :
    (Instr.makeSlice 29 (.int .i64 (N : Int)) (.int .i64 (N : Int))).run Try.prog W = .ok (.slice (some ⟨W.heap.size, 0, none⟩) N N) (W.alloc (.cells (madeCells #[.int .i64 0] N) 3)) := by
  obtain ⟨i0, hi, hz0, hzs, hz2⟩ := info_parts infoInt
  have h1 : i0.bytes * N ≤ 8 * 1099511627776 := by rw [hz2]; exact Nat.mul_le_mul_left _ hN
  have hr := run_make (P := Try.prog) W 29 3 i0 _ Try.underlying29 hi hz0 .i64 .i64 (N : Int) (N : Int) (by omega) (Int.le_refl _) (by
    have : ((i0.bytes * N : Nat) : Int) ≤ 281474976710656 := by omega
    rwa [Int.natCast_mul] at this) (by omega)
  simpa [hzs, Value.cells] using hr

theorem madeI (N : Nat) : madeCells #[.int .i64 0] N = (List.replicate N (Value.int .i64 0)).toArray := by
  apply Array.toList_inj.1
  apply List.ext_getElem
  · simp [madeCells]
  · intro i h1 h2
    simp [madeCells, Nat.mod_one]
theorem run_low (g N k : Nat) (hk : k < N) (u : World) : (Instr.slice 29 (.slice (some ⟨g, 0, none⟩) N N) (some (.int .i64 (k : Int))) none none).run Try.prog u = .ok (.slice (some ⟨g, k, none⟩) (N - k) (N - k)) u := by
  rw [run_slice_l (P := Try.prog) u 29 (some ⟨g, 0, none⟩) N N (by kernel_rfl) .i64 k (by omega) (by omega)]
  have : (sizeOf (Try.prog.elem 29)).run Try.prog u = .ok 1 u := by kernel_rfl
  rw [this]
  simp [Result.andThen, sliced, add_none]
  omega
theorem run_high (g N k : Nat) (hk : k ≤ N) (u : World) : (Instr.slice 29 (.slice (some ⟨g, 0, none⟩) N N) none (some (.int .i64 (k : Int))) none).run Try.prog u = .ok (.slice (some ⟨g, 0, none⟩) k N) u := by
  rw [run_slice_h (P := Try.prog) u 29 (some ⟨g, 0, none⟩) N N (by kernel_rfl) .i64 k (by omega) (by omega)]
  have : (sizeOf (Try.prog.elem 29)).run Try.prog u = .ok 1 u := by kernel_rfl
  rw [this]
  simp [Result.andThen, sliced, add_none]
theorem size1 : (Try.prog.info? 3).map (·.size) = some 1 := by kernel_rfl
/-- a row whose first k cells are -1 -/
def Ones (cur : List Value) (N k : Nat) : Prop := cur.length = N ∧ cur.take k = icells (List.replicate k (-1))
theorem Ones.more {cur : List Value} {N k d : Nat} (h : Ones cur N k) (hk : k + d ≤ N) : Ones (splice cur k (icells (List.replicate d (-1)))) N (k + d) := by
  refine ⟨?_, ?_⟩
  · rw [length_splice _ _ _ (by rw [icells_length, h.1]; simpa using hk), h.1]
  · have h1 : (cur.take k).length = k := by rw [List.length_take, h.1]; omega
    rw [splice, ← List.append_assoc, List.take_left' (by rw [List.length_append, h1, icells_length, List.length_replicate]), h.2, ← icells_append, List.replicate_append_replicate]
theorem Ones.cell {cur : List Value} {N k : Nat} (h : Ones cur N k) (j : Nat) (hj : j < k) : cur[j]? = some (.int .i64 (-1)) := by
  have : (cur.take k)[j]? = some (.int .i64 (-1)) := by rw [h.2]; simp [icells, hj]
  rw [List.getElem?_take] at this
  simpa [hj] using this

set_option maxRecDepth 10000 in
set_option maxHeartbeats 4000000 in
theorem Repeat_f (N : Nat) (hN : N ≤ 1048576) (v : Value) (w : World) (hv : HI w v [-1]) :
    Calls Try.prog 58 #[v, .int .i64 (N : Int)] w fun e w' => ∃ g, e = .returned (.slice (some ⟨g, 0, none⟩) N N) ∧ w'.ownsRow w.heap.size 3 1 (.slice (some ⟨g, 0, none⟩) N N) N (icells (List.replicate N (-1))) ∧ Below w.heap.size w w' := by
  obtain ⟨ao, ca, rfl⟩ := Holds.form hv
  obtain ⟨b, off, rfl, hb, hc⟩ := HI.at hv (by decide)
  have c0 : w.cell? ⟨b, off, none⟩ = some (.int .i64 (-1)) := hc 0 (by decide)
  clear hc hv
  have hmk := run_makeI N (by omega)
  rw [madeI] at hmk
  obtain ⟨d, hd⟩ : ∃ d, d = Nat.min 1 N := ⟨_, rfl⟩
  have hd' : d ≤ 1 ∧ d ≤ N ∧ (0 < N → d = 1) := by
    rw [hd]
    show min 1 N ≤ 1 ∧ min 1 N ≤ N ∧ (0 < N → min 1 N = 1)
    omega
  have HDn : Hid ((icells (List.replicate d (-1))).length = Nat.min 1 N) := (by show _ = _; rw [icells_length, List.length_replicate, hd])
  clear hd
  simp only [List.length_singleton] at *
  go_enter Try.func58, Try.ntmps58
  go_wp2_with fail
  refine (Mul_one N hN w).mono ?_
  rintro e w0 ⟨rfl, rfl⟩
  have hcb : (w.alloc (Obj.cells (List.replicate N (Value.int .i64 0)).toArray 3)).cell? ⟨b, off, none⟩ = some (.int .i64 (-1)) := by
    rw [World.cell?_of_block (w := w) (Below.heap_alloc _ _ _ hb)]; exact c0
  have hsrc : ∀ j v, (icells (List.replicate d (-1)))[j]? = some v → (w.alloc (Obj.cells (List.replicate N (Value.int .i64 0)).toArray 3)).cell? ((⟨b, off, none⟩ : Addr).add j) = some v := by
    intro j v hj
    have hl := (List.getElem?_eq_some_iff.1 hj).1
    rw [icells_length, List.length_replicate] at hl
    obtain rfl : j = 0 := by omega
    simp [icells, hl] at hj
    rw [add_none, Nat.add_zero, hcb, hj]
  have hfit : 0 + (icells (List.replicate d (-1))).length ≤ (List.replicate N (Value.int .i64 0)).length := by rw [icells_length]; simp; omega
  go_wp2_with (refine wpList_copy_splice (o := ⟨some 33, _, _, _, _, none⟩) rfl (.tmp 31) (.tmp 32) 29 29 rfl 3 Try.underlying29 (by kernel_rfl) _ _ _ _ _ _ rfl rfl w.heap.size 0 (List.replicate N (Value.int .i64 0)) 3 (_root_.Go.heap_alloc_new w _) (icells (List.replicate d (-1))) HDn.out (fun _ => ⟨rfl, _, rfl, hsrc⟩) hfit (icells_one _) w.heap.size w ((Below.refl _ w).alloc (Nat.le_refl _) _) (Nat.le_refl _) ?_)
  intro w1 hg1 hB1
  have hlen0 : ((icells (List.replicate d (-1))).length : Int) = (d : Int) := by rw [icells_length, List.length_replicate]
  simp only [hlen0]
  have hOn : Ones (splice (List.replicate N (Value.int .i64 0)) 0 (icells (List.replicate d (-1)))) N (0 + d) := Ones.more ⟨by simp, by simp [icells]⟩ (by omega)
  rw [Nat.zero_add] at hOn
  generalize splice (List.replicate N (Value.int .i64 0)) 0 (icells (List.replicate d (-1))) = cur1 at *
  clear hsrc hfit hcb HDn hmk hlen0
  go_wp2
  go_loopw [8] (fun nv wr => ∃ (k : Nat) (cur : List Value), k ≤ N ∧ (0 < N → 0 < k) ∧ nv = .int .i64 (k : Int) ∧ Below w.heap.size w wr ∧ Hid (wr.heap[w.heap.size]? = some (.cells cur.toArray 3 (0, 0))) ∧ Hid (Ones cur N k)) (fun nv _ => N - (intOf nv).toNat)
  case atStart => exact ⟨d, cur1, by omega, by omega, rfl, hB1, hg1, hOn⟩
  case round =>
    obtain ⟨k, cur, hk, hk0, rfl, hB, hg, hO⟩ := hrel
    by_cases hlt : k < N
    · have s1 := run_low w.heap.size N k hlt
      have s2 := run_high w.heap.size N k (by omega)
      obtain ⟨d, hd⟩ : ∃ d, d = Nat.min k (N - k) := ⟨_, rfl⟩
      have hd' : d ≤ k ∧ d ≤ N - k ∧ 0 < d := by
        rw [hd]
        show min k (N - k) ≤ k ∧ min k (N - k) ≤ N - k ∧ 0 < min k (N - k)
        have := hk0 (by omega)
        omega
      have HDn : Hid ((icells (List.replicate d (-1))).length = Nat.min k (N - k)) := (by show _ = _; rw [icells_length, List.length_replicate, hd])
      clear hd
      have hlen0 : ((icells (List.replicate d (-1))).length : Int) = (d : Int) := by rw [icells_length, List.length_replicate]
      have hw1 : IntKind.i64.wrap ((k : Int) + (d : Int)) = ((k + d : Nat) : Int) := by rw [IntKind.wrap_i64]; omega
      have hsrc : ∀ u : World, u.heap = wr.heap → ∀ j v, (icells (List.replicate d (-1)))[j]? = some v → u.cell? ((⟨w.heap.size, 0, none⟩ : Addr).add j) = some v := by
        intro u hu j v hj
        have hl := (List.getElem?_eq_some_iff.1 hj).1
        rw [icells_length, List.length_replicate] at hl
        simp [icells, hl] at hj
        have hgu : u.heap[w.heap.size]? = some (.cells cur.toArray 3 (0, 0)) := by rw [hu]; exact hg.out
        rw [add_none, Nat.zero_add, Lib.cell_of_heap hgu, ← hj]
        have := hO.out.cell j (by omega)
        simpa using this
      have hfit : k + (icells (List.replicate d (-1))).length ≤ cur.length := by rw [icells_length, hO.out.1]; simp; omega
      have hi1 : (0 : Int) ≤ (k : Int) := by omega
      have hi2 : (k : Int) ≤ (N : Int) := by omega
      go_wp2_with fail
      have hlow : Low w wr := hB
      go_region_held3 (fun u => Low w u) (go_keep)
        (first | (refine step_copy_splice (P := Try.prog) rfl (.tmp 41) (.tmp 44) 29 29 rfl 3 Try.underlying29 size1 (some ⟨w.heap.size, k, none⟩) (some ⟨w.heap.size, 0, none⟩) (N - k) (N - k) k N rfl rfl w.heap.size k cur 3 hg.out (icells (List.replicate d (-1))) HDn.out (fun _ => ⟨rfl, _, rfl, hsrc _ rfl⟩) hfit (icells_one _) w.heap.size w (Below.dN hB 1) (Nat.le_refl _) ?_; intro w2 hg2 hB2; have hlow2 : Low w w2 := hB2; simp only [goInt, hlen0]))
      go_wp2
      go_roundw
      case rel => exact ⟨k + d, _, by omega, by omega, by go_num, hB2, hg2, hO.out.more (by omega)⟩
      case measure => simp [intOf]; omega
    · obtain rfl : k = N := by omega
      go_wp2
      go_ret
      have hL := hO.out.2
      rw [List.take_of_length_le (by rw [hO.out.1]; omega)] at hL
      refine ⟨w.heap.size, rfl, ?_, hB⟩
      refine ⟨by rw [icells_length]; simp, .inr ⟨w.heap.size, k, cur.toArray, rfl, Nat.le_refl _, hg.out, Nat.le_refl _, by unfold maxLen; omega, ?_, ?_⟩⟩
      · simp [hO.out.1]
      · rw [hL, List.take_of_length_le (by rw [icells_length]; simp)]
end Go.Proofs.Ytppdcjjkkckokaa
