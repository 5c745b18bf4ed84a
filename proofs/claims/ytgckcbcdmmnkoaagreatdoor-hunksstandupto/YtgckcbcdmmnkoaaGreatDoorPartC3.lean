/-
  Texts that belong together, joined: HuSt.
-/
import Derived.Test.YtgckcbcdmmnkoaaGreatDoorPartA18
import Derived.Test.YtgckcbcdmmnkoaaGreatDoorPartB2
import Derived.Test.YtgckcbcdmmnkoaaGreatDoorPartC2
import Derived.Test.YtgckcbcdmmnkoaaGreatDoorPartA6
import Derived.Deep.CutRange

/- Small operations within a region that draws; lines that all have their line feed but the last: for the law HunksStand. -/
set_option maxRecDepth 20000
namespace Go.Proofs.YtgckcbcdmmnkoaaGreatDoor
open Go.RowKit

theorem exec_addI {u : World} {p q : Int} (h : IntKind.i64.wrap (p + q) = p + q) {op : Oper} (x y : Operand) (ho : op.op = .binOp .add 3 x y 3) {ev : Operand → Value} (hx : ev x = .int .i64 p) (hy : ev y = .int .i64 q) :
    (execOp ev op).run Tryz.prog u = .ok (.value (.int .i64 (p + q))) u := by
  simp only [execOp, ho, hx, hy]
  go_simp
theorem exec_gtI {u : World} {p q : Int} (h : decide (q < p) = false) {op : Oper} (x y : Operand) (ho : op.op = .binOp .gtr 3 x y 3) {ev : Operand → Value} (hx : ev x = .int .i64 p) (hy : ev y = .int .i64 q) :
    (execOp ev op).run Tryz.prog u = .ok (.value (.bool false)) u := by
  simp only [execOp, ho, hx, hy]
  go_simp
theorem exec_slHu {u : World} {ao ao' : Option Addr} {n cap n' c' : Nat} {p q : Int} (hr : ∀ u : World, (Instr.slice 22 (.slice ao n cap) (some (.int .i64 p)) (some (.int .i64 q)) none).run Tryz.prog u = .ok (.slice ao' n' c') u) {op : Oper} (x y z : Operand) (ho : op.op = .slice 22 x (some y) (some z) none) {ev : Operand → Value} (hx : ev x = .slice ao n cap) (hy : ev y = .int .i64 p) (hz : ev z = .int .i64 q) :
    (execOp ev op).run Tryz.prog u = .ok (.value (.slice ao' n' c')) u := by
  have h2 := run_sliceAt_slice (P := Tryz.prog) (w := u) 22 (.slice ao n cap) (some (.int .i64 p)) (some (.int .i64 q)) none (by kernel_rfl)
  simp only [execOp, ho, hx, hy, hz, Option.map_some, Option.map_none, Sem.run_bind, h2, hr u, Result.andThen_ok, Sem.run_pure]
theorem ne_feed {x : UInt8} (h : x ≠ 10) : ((x.toNat : Int) != 10) = true := by
  have : x.toNat ≠ 10 := fun e => h (UInt8.toNat_inj.1 e)
  rw [bne_iff_ne]; omega
theorem not_ne_feed {x : UInt8} (h : x = 10) : ((x.toNat : Int) != 10) = false := by subst h; rfl
theorem abl_of {a : List (List UInt8)} (h : ∀ (j : Nat) (hj : j < a.length), j + 1 < a.length → fdB a[j] = true) : abl a = true := by
  induction a with
  | nil => rfl
  | cons t r ih =>
    simp only [abl, Bool.and_eq_true, Bool.or_eq_true]
    refine ⟨?_, ih fun j hj h1 => ?_⟩
    · cases r with
      | nil => left; rfl
      | cons s r =>
        right
        have := h 0 (by simp) (by simp)
        simpa using this
    · have := h (j + 1) (by simp; omega) (by simp; omega)
      simpa using this
theorem tot_le {l : List Hk} {M : Nat} (h : ∀ x ∈ l, x.ls.length ≤ M) : tot l ≤ l.length * M := by
  induction l with
  | nil => simp [tot]
  | cons x l ih =>
    have h1 := ih fun y hy => h y (by simp [hy])
    have h2 := h x (by simp)
    simp only [tot, List.length_cons, Nat.succ_mul]
    omega
end Go.Proofs.YtgckcbcdmmnkoaaGreatDoor
