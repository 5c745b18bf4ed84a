/-
  The table of lengths: row, at, measure, walked.
-/
import Derived.Test.YtppdcjjkkckokaaMiMath
import Derived.Test.YtppdcjjkkckokaaEdMk
import Derived.Deep.CutRange
namespace Go.Proofs.Ytppdcjjkkckokaa
open Go.RowKit

theorem info16 : (Try.prog.info? 88).map (fun i => (i.zero, i.size, i.bytes)) = some (some (.int .i16 0), 1, 2) := by kernel_rfl
/-- a table as a value -/
def tabV (W g N : Nat) : Value := .agg #[.int .i64 (W : Int), .slice (some ⟨g, 0, none⟩) N N]
theorem run_row (g N p q : Nat) (hpq : p ≤ q) (hq : q ≤ N) (hp : p < N) (u : World) :
    (Instr.slice 64 (.slice (some ⟨g, 0, none⟩) N N) (some (.int .i64 (p : Int))) (some (.int .i64 (q : Int))) none).run Try.prog u = .ok (.slice (some ⟨g, p, none⟩) (q - p) (N - p)) u := by
  rw [run_slice_lh (P := Try.prog) u 64 (some ⟨g, 0, none⟩) N N (by kernel_rfl) .i64 .i64 p q (by omega) (by omega) (by omega)]
  have : (sizeOf (Try.prog.elem 64)).run Try.prog u = .ok 1 u := by kernel_rfl
  rw [this]
  simp [Result.andThen, sliced, add_none]
  omega

set_option maxHeartbeats 1000000 in
theorem row_f (W g N p q L : Nat) (hL : q - p = L) (z : Int) (w : World) (h1 : z * (W : Int) = (p : Int)) (h2 : (z + 1) * (W : Int) = (q : Int)) (hpq : p ≤ q) (hq : q ≤ N) (hp : p < N) (hN : N ≤ 1099511627776) (hi0 : 0 ≤ z) (hi : z ≤ 1099511627776) :
    Calls Try.prog 57 #[tabV W g N, .int .i64 z] w fun e w' => e = .returned (.slice (some ⟨g, p, none⟩) L (N - p)) ∧ Below w.heap.size w w' := by
  have hr := run_row g N p q hpq hq hp
  rw [hL] at hr
  clear hL
  unfold tabV
  go_enter Try.func57, Try.ntmps57
  go_wp2
  go_ret
  exact ⟨rfl, (Below.refl _ w).alloc (Nat.le_refl _) _⟩

set_option maxHeartbeats 1000000 in
theorem at_n (W g N i j p q : Nat) (x : Int) (w : World) (h1 : (i : Int) * (W : Int) = (p : Int)) (h2 : (p : Int) + (j : Int) = (q : Int)) (hN : N ≤ 1099511627776) (hpj : q < N) (hx : w.cell? ⟨g, q, none⟩ = some (.int .i16 x)) (hx0 : 0 ≤ x) (hx1 : x ≤ 4096) :
    Calls Try.prog 41 #[tabV W g N, .int .i64 (i : Int), .int .i64 (j : Int)] w fun e w' => e = .returned (.int .i64 x) ∧ Below w.heap.size w w' := by
  have hg := World.block_lt_of_cell? w _ hx
  have hx' : (w.alloc (Obj.cells #[Value.int IntKind.i64 (W : Int), Value.slice (some ⟨g, 0, none⟩) N N] 66)).cell? ⟨g, q, none⟩ = some (.int .i16 x) := by
    rw [World.cell?_of_block (w := w) (Below.heap_alloc _ _ _ hg)]; exact hx
  have i1 : 0 ≤ (q : Int) := by omega
  have i2 : (q : Int) < (N : Int) := by omega
  unfold tabV
  go_enter Try.func41, Try.ntmps41
  go_wp2
  go_ret
  exact ⟨rfl, (Below.refl _ w).alloc (Nat.le_refl _) _⟩
theorem at_f (W g N p q : Nat) (i j x : Int) (w : World) (hi : 0 ≤ i) (hj : 0 ≤ j) (h1 : i * (W : Int) = (p : Int)) (h2 : (p : Int) + j = (q : Int)) (hN : N ≤ 1099511627776) (hpj : q < N) (hx : w.cell? ⟨g, q, none⟩ = some (.int .i16 x)) (hx0 : 0 ≤ x) (hx1 : x ≤ 4096) :
    Calls Try.prog 41 #[tabV W g N, .int .i64 i, .int .i64 j] w fun e w' => e = .returned (.int .i64 x) ∧ Below w.heap.size w w' := by
  obtain ⟨a, rfl⟩ := Int.eq_ofNat_of_zero_le hi
  obtain ⟨b, rfl⟩ := Int.eq_ofNat_of_zero_le hj
  exact at_n W g N a b p q x w h1 h2 hN hpj hx hx0 hx1
end Go.Proofs.Ytppdcjjkkckokaa
