/-
  Texts that belong together, joined: UrB, UkA, UkN, UkB, UkD, UnD, UkC, UkE, UkF, UkG, UrC, UrD, UkH, UkI, UkJ, UrE, NpV, NpW, PgU, PrC, CpW, CpX, CpY, CpZ, UnLen, PgV.
-/
import Derived.Test.YtgiojkhmkeocfaaGreatDoorCtParA15
import Derived.Test.YtgiojkhmkeocfaaGreatDoorCtParA6
import Derived.Test.YtgiojkhmkeocfaaGreatDoorCtParA7
import Derived.Test.YtgiojkhmkeocfaaGreatDoorCtParA4
import Derived.Test.YtgiojkhmkeocfaaGreatDoorCtParA3
import Derived.ChangeKeysEq
import Derived.Laws.StructEq
import Derived.Deep.DeepCutAuto
import Derived.Deep.CutBlock
import Derived.Test.YtgiojkhmkeocfaaGreatDoorCtParA10
import Derived.Test.YtgiojkhmkeocfaaGreatDoorCtParA5
import Derived.Test.YtgiojkhmkeocfaaGreatDoorCtParA8
import Derived.Test.YtgiojkhmkeocfaaGreatDoorCtParA11
import Derived.Test.YtgiojkhmkeocfaaGreatDoorCtParA14
import Derived.Test.YtgiojkhmkeocfaaGreatDoorProg
import Derived.WalkKit
import Derived.LaidEql
import Derived.Stop.Asserts
import Derived.RowKitTokens
import Derived.Test.YtgiojkhmkeocfaaGreatDoorCtParA12
import Derived.Test.YtgiojkhmkeocfaaGreatDoorCtParA2

/- The reference's counts and cuts of layer 16, walked. -/
set_option maxRecDepth 20000
namespace Go.Proofs.YtgiojkhmkeocfaaGreatDoor
open Go.RowKit Go.Proofs.YtgiojkhmkeocfaaGreatDoor.Tx
attribute [local go_sem] ByteArray.extract_mk no_at

end Go.Proofs.YtgiojkhmkeocfaaGreatDoor

/- The code's reader of layer 16, walked: what is wrong is thrown; the next line; does a hunk stand next? -/
set_option maxRecDepth 20000
namespace Go.Proofs.YtgiojkhmkeocfaaGreatDoor
open Go.RowKit Go.Proofs.YtgiojkhmkeocfaaGreatDoor.Tx
attribute [local go_sem] ByteArray.extract_mk no_at

/-- a reader: its lines, how many are read -/
def ukO (vL : Value) (p : Int) : Obj := .cells #[vL, .int .i64 p] 126
def Uk (u : World) (R : Nat) (vL : Value) (p : Int) : Prop := u.heap[R]? = some (ukO vL p)
section
variable {u u' : World} {R : Nat} {vL : Value} {p : Int}
theorem Uk.cells (q : Uk u R vL p) : u.cell? ⟨R, 0, none⟩ = some vL ∧ u.cell? ⟨R, 1, none⟩ = some (.int .i64 p) := by
  unfold Uk ukO at q
  refine ⟨?_, ?_⟩ <;> rw [Lib.cell_of_heap q] <;> rfl
theorem Uk.frozen (q : Uk u R vL p) (j : Nat) : u.frozen? ⟨R, j, none⟩ = false := Lib.frozen_of_heap q j
theorem Uk.lt (q : Uk u R vL p) : R < u.heap.size := (Array.getElem?_eq_some_iff.1 q).1
theorem Uk.dN (q : Uk u R vL p) (n : Nat) : Uk (u.drewN n) R vL p := q
theorem Uk.at (q : Uk u R vL p) (p' : Int) : Uk (u.setCell ⟨R, 1, none⟩ (.int .i64 p')) R vL p' := heap_setCell_same u R 1 _ _ (.int .i64 p') q
theorem Uk.low (q : Uk u R vL p) (hg : Below u.heap.size u u') : Uk u' R vL p := (hg.block R q.lt).trans q
theorem Uk.keep (q : Uk u R vL p) {g : Option Nat} (hg : u.grownBy u' g) (hr : some R ≠ g) : Uk u' R vL p := (hg.block R q.lt hr).trans q
end
end Go.Proofs.YtgiojkhmkeocfaaGreatDoor

/- The code's reader of layer 16, walked: a name -/
set_option maxRecDepth 20000
namespace Go.Proofs.YtgiojkhmkeocfaaGreatDoor
open Go.RowKit Go.Proofs.YtgiojkhmkeocfaaGreatDoor.Tx
attribute [local go_sem] ByteArray.extract_mk no_at

end Go.Proofs.YtgiojkhmkeocfaaGreatDoor

/- The code's head of a hunk (layer 16), walked: numbers, begun. -/
set_option maxRecDepth 20000
namespace Go.Proofs.YtgiojkhmkeocfaaGreatDoor
open Go.RowKit Go.Proofs.YtgiojkhmkeocfaaGreatDoor.Tx
attribute [local go_sem] ByteArray.extract_mk no_at

/-- internal/bytealg.MaxLen holds a number -/
def Mxl (w : World) : Prop := ∃ m, w.cell? ⟨1, 0, none⟩ = some (.int .i64 m)
theorem Mxl.low {w w' : World} (h : Mxl w) (hb : Below w.heap.size w w') : Mxl w' := by
  obtain ⟨m, h⟩ := h
  exact ⟨m, (World.cell?_of_block (hb.block _ (block_lt_of_cell h))).trans h⟩
theorem Mxl.keep {w w' : World} {R : Nat} (h : Mxl w) (hg : w.grownBy w' (some R)) (hR : 1 < R) : Mxl w' := by
  obtain ⟨m, h⟩ := h
  exact ⟨m, (World.cell?_of_block (hg.block _ (block_lt_of_cell h) (fun e => by have := Option.some.inj e; simp at this; omega))).trans h⟩
end Go.Proofs.YtgiojkhmkeocfaaGreatDoor

/- The code's counts of layer 16, walked: two counts held against one another; what a sign takes; is a line the last one; does the mark stand next? -/
set_option maxRecDepth 20000
namespace Go.Proofs.YtgiojkhmkeocfaaGreatDoor
open Go.RowKit Go.Proofs.YtgiojkhmkeocfaaGreatDoor.Tx
attribute [local go_sem] ByteArray.extract_mk no_at

def ctO (a b : Int) : Obj := .cells #[.int .i64 a, .int .i64 b] 230
end Go.Proofs.YtgiojkhmkeocfaaGreatDoor

/- A line of a hunk as the code reads it (layer 16); plain mathematics. -/
set_option maxRecDepth 20000
namespace Go.Proofs.YtgiojkhmkeocfaaGreatDoor
open Ln

end Go.Proofs.YtgiojkhmkeocfaaGreatDoor

/- The code's begun of layer 16, walked: the hunk that a line begins. -/
set_option maxRecDepth 20000
namespace Go.Proofs.YtgiojkhmkeocfaaGreatDoor
open Go.RowKit Go.Proofs.YtgiojkhmkeocfaaGreatDoor.Tx
attribute [local go_sem] ByteArray.extract_mk no_at

/-- a hunk without its lines -/
def hk0 (A AN B BN : Int) : Value := .agg #[.int .i64 A, .int .i64 AN, .int .i64 B, .int .i64 BN, .slice none 0 0]
theorem put5_low {B b : Nat} {w u : World} (h : Below B w u) (hb : B ≤ b) (z0 z1 z2 z3 z4 : Value) : Below B w (((((u.setCell ⟨b, 0, none⟩ z0).setCell ⟨b, 1, none⟩ z1).setCell ⟨b, 2, none⟩ z2).setCell ⟨b, 3, none⟩ z3).setCell ⟨b, 4, none⟩ z4) := ((((h.setCell (p := ⟨b, 0, none⟩) hb z0).setCell (p := ⟨b, 1, none⟩) hb z1).setCell (p := ⟨b, 2, none⟩) hb z2).setCell (p := ⟨b, 3, none⟩) hb z3).setCell (p := ⟨b, 4, none⟩) hb z4
end Go.Proofs.YtgiojkhmkeocfaaGreatDoor

/- The code's mark of layer 16: its variables while a line is read. -/
set_option maxRecDepth 20000
namespace Go.Proofs.YtgiojkhmkeocfaaGreatDoor
open Go.RowKit Go.Proofs.YtgiojkhmkeocfaaGreatDoor.Tx

def mk0 : Obj := .cells #[.int .u8 0, .string ⟨#[]⟩] 103
/-- the variables of mark: what is left, the results, what the line takes, and the reader -/
structure Mz (w : World) (R : Nat) (vL : Value) (T : Nat) (p : Nat) (a b x y : Int) (u : World) : Prop where
  gr : w.grownBy u (some R)
  b1 : u.heap[w.heap.size]? = some (ctO a b)
  b2 : u.heap[w.heap.size + 1]? = some mk0
  b3 : u.heap[w.heap.size + 2]? = some (ctO 0 0)
  bt : u.heap[T]? = some (ctO x y)
  ck : Uk u R vL (p : Int)
  tl : w.heap.size + 2 < T
  rl : R < w.heap.size
section
variable {w u u' : World} {R T p : Nat} {vL : Value} {a b x y : Int}
theorem Mz.low (h : Mz w R vL T p a b x y u) (hb : Below u.heap.size u u') : Mz w R vL T p a b x y u' :=
  ⟨grown_two h.gr (low_grown hb _), (hb.block _ (Array.getElem?_eq_some_iff.1 h.b1).1).trans h.b1, (hb.block _ (Array.getElem?_eq_some_iff.1 h.b2).1).trans h.b2, (hb.block _ (Array.getElem?_eq_some_iff.1 h.b3).1).trans h.b3, (hb.block _ (Array.getElem?_eq_some_iff.1 h.bt).1).trans h.bt, h.ck.low hb, h.tl, h.rl⟩
theorem Mz.other (h : Mz w R vL T p a b x y u) {g : Nat} (j : Nat) (z : Value) (h0 : w.heap.size + 2 < g) (h1 : g ≠ T) : Mz w R vL T p a b x y (u.setCell ⟨g, j, none⟩ z) := by
  have hs := h.rl
  have k : ∀ (i : Nat) (o : Obj), i ≠ g → u.heap[i]? = some o → (u.setCell ⟨g, j, none⟩ z).heap[i]? = some o := fun i o hi ho => (Below.heap_setCell _ _ _ i hi).trans ho
  exact ⟨grown_new h.gr (by omega) j z, k _ _ (by omega) h.b1, k _ _ (by omega) h.b2, k _ _ (by omega) h.b3, k _ _ (fun e => h1 e.symm) h.bt, k _ _ (by omega) h.ck, h.tl, h.rl⟩
theorem Mz.next (h : Mz w R vL T p a b x y u) : Mz w R vL T (p + 1) a b x y (u.setCell ⟨R, 1, none⟩ (.int .i64 ((p : Int) + 1))) := by
  have hs := h.rl
  have ht := h.tl
  have k : ∀ (i : Nat) (o : Obj), i ≠ R → u.heap[i]? = some o → (u.setCell ⟨R, 1, none⟩ (.int .i64 ((p : Int) + 1))).heap[i]? = some o := fun i o hi ho => (Below.heap_setCell _ _ _ i hi).trans ho
  exact ⟨grown_two h.gr (grown_set u R 1 _), k _ _ (by omega) h.b1, k _ _ (by omega) h.b2, k _ _ (by omega) h.b3, k _ _ (by omega) h.bt, by have := h.ck.at ((p : Int) + 1); simpa using this, h.tl, h.rl⟩
theorem Mz.left (h : Mz w R vL T p a b x y u) : u.cell? ⟨w.heap.size, 0, none⟩ = some (.int .i64 a) ∧ u.cell? ⟨w.heap.size, 1, none⟩ = some (.int .i64 b) ∧ u.frozen? ⟨w.heap.size, 0, none⟩ = false ∧ u.frozen? ⟨w.heap.size, 1, none⟩ = false := by
  have e : u.heap[w.heap.size]? = some (.cells #[.int .i64 a, .int .i64 b] 230) := h.b1
  exact ⟨by rw [Lib.cell_of_heap e]; rfl, by rw [Lib.cell_of_heap e]; rfl, Lib.frozen_of_heap e 0, Lib.frozen_of_heap e 1⟩
theorem Mz.taken (h : Mz w R vL T p a b x y u) : u.cell? ⟨T, 0, none⟩ = some (.int .i64 x) ∧ u.cell? ⟨T, 1, none⟩ = some (.int .i64 y) := by
  have e : u.heap[T]? = some (.cells #[.int .i64 x, .int .i64 y] 230) := h.bt
  exact ⟨by rw [Lib.cell_of_heap e]; rfl, by rw [Lib.cell_of_heap e]; rfl⟩
theorem Mz.res (h : Mz w R vL T p a b x y u) : (∀ j, u.frozen? ⟨w.heap.size + 1, j, none⟩ = false) ∧ (∀ j, u.frozen? ⟨w.heap.size + 1 + 1, j, none⟩ = false) ∧ u.cell? ⟨w.heap.size + 1, 0, none⟩ = some (.int .u8 0) ∧ u.cell? ⟨w.heap.size + 1, 1, none⟩ = some (.string ⟨#[]⟩) ∧ u.cell? ⟨w.heap.size + 1 + 1, 0, none⟩ = some (.int .i64 0) ∧ u.cell? ⟨w.heap.size + 1 + 1, 1, none⟩ = some (.int .i64 0) := by
  have e : u.heap[w.heap.size + 1]? = some (.cells #[.int .u8 0, .string ⟨#[]⟩] 103) := h.b2
  have e2 : u.heap[w.heap.size + 1 + 1]? = some (.cells #[.int .i64 0, .int .i64 0] 230) := h.b3
  exact ⟨fun j => Lib.frozen_of_heap e j, fun j => Lib.frozen_of_heap e2 j, by rw [Lib.cell_of_heap e]; rfl, by rw [Lib.cell_of_heap e]; rfl, by rw [Lib.cell_of_heap e2]; rfl, by rw [Lib.cell_of_heap e2]; rfl⟩
end
end Go.Proofs.YtgiojkhmkeocfaaGreatDoor

/- The code's mark of layer 16, walked: the next line of a hunk. -/
set_option maxRecDepth 20000
namespace Go.Proofs.YtgiojkhmkeocfaaGreatDoor
open Go.RowKit Go.Proofs.YtgiojkhmkeocfaaGreatDoor.Tx
attribute [local go_sem] ByteArray.extract_mk no_at

end Go.Proofs.YtgiojkhmkeocfaaGreatDoor

/- The code's head of layer 16, walked: the line that begins a hunk. -/
set_option maxRecDepth 20000
namespace Go.Proofs.YtgiojkhmkeocfaaGreatDoor
open Go.RowKit Go.Proofs.YtgiojkhmkeocfaaGreatDoor.Tx
attribute [local go_sem] ByteArray.extract_mk no_at

theorem five_gr {w u : World} {R b : Nat} (h : w.grownBy u (some R)) (hb : w.heap.size ≤ b) (A AN B BN : Int) (z : Value) : w.grownBy (five u b A AN B BN z) (some R) := grown_new (grown_new (grown_new (grown_new (grown_new h hb 0 _) hb 1 _) hb 2 _) hb 3 _) hb 4 _
theorem five_hx {u : World} {b : Nat} {h : Hk} {v : Value} (p : Hx u b h v) (A AN B BN : Int) (z : Value) : (five u b A AN B BN z).heap[b]? = some (.cells #[.int .i64 A, .int .i64 AN, .int .i64 B, .int .i64 BN, z] 59 (0, 0)) := p.put5 _ _ _ _ _
end Go.Proofs.YtgiojkhmkeocfaaGreatDoor

/- The reference's head of layer 16, walked: a line that begins a hunk. -/
set_option maxRecDepth 20000
namespace Go.Proofs.YtgiojkhmkeocfaaGreatDoor
open Go.RowKit Go.Proofs.YtgiojkhmkeocfaaGreatDoor.Tx
attribute [local go_sem] ByteArray.extract_mk no_at

/-- a box of a hunk and the result's box, both new -/
structure Hd2 (w : World) (A AN B BN : Int) (u : World) : Prop where
  low : Below w.heap.size w u
  b0 : Hx u w.heap.size ⟨0, 0, 0, 0, []⟩ (.slice none 0 0)
  b1 : Hx u (w.heap.size + 1) ⟨A, AN, B, BN, []⟩ (.slice none 0 0)
section
variable {w u u' : World} {A AN B BN : Int}
theorem Hd2.keep (h : Hd2 w A AN B BN u) (hb : Below u.heap.size u u') : Hd2 w A AN B BN u' := ⟨h.low.trans (hb.mono h.low.size), h.b0.low hb, h.b1.low hb⟩
theorem Hd2.fin (h : Hd2 w A AN B BN u) : (five u w.heap.size A AN B BN (.slice none 0 0)).heap[w.heap.size]? = some (.cells #[.int .i64 A, .int .i64 AN, .int .i64 B, .int .i64 BN, .slice none 0 0] 59 (0, 0)) ∧ Below w.heap.size w (five u w.heap.size A AN B BN (.slice none 0 0)) := ⟨h.b0.put5 _ _ _ _ _, put5_low h.low (Nat.le_refl _) _ _ _ _ _⟩
theorem Hd2.new (w : World) : Hd2 w 0 0 0 0 ((w.alloc (hkO ⟨0, 0, 0, 0, []⟩ (.slice none 0 0))).alloc (hkO ⟨0, 0, 0, 0, []⟩ (.slice none 0 0))) := by
  have hz : (w.alloc (hkO ⟨0, 0, 0, 0, []⟩ (.slice none 0 0))).heap.size = w.heap.size + 1 := by simp
  refine ⟨((Below.refl _ w).alloc (Nat.le_refl _) _).alloc (by rw [hz]; omega) _, (Below.heap_alloc _ _ _ (by rw [hz]; omega)).trans (Hx.new w _ _), ?_⟩
  have := Hx.new (w.alloc (hkO ⟨0, 0, 0, 0, []⟩ (.slice none 0 0))) ⟨0, 0, 0, 0, []⟩ (.slice none 0 0)
  rw [hz] at this
  exact this
end
end Go.Proofs.YtgiojkhmkeocfaaGreatDoor

/- The reference's line of layer 16, walked: a line of a hunk. -/
set_option maxRecDepth 20000
namespace Go.Proofs.YtgiojkhmkeocfaaGreatDoor
open Go.RowKit Go.Proofs.YtgiojkhmkeocfaaGreatDoor.Tx
attribute [local go_sem] ByteArray.extract_mk no_at

/-- the variables of line: the result's box, and the reader -/
structure Ml (w : World) (R : Nat) (vL : Value) (st : Except (Nat × Int) Nat) (u : World) : Prop where
  gr : w.grownBy u (some R)
  b0 : u.heap[w.heap.size]? = some (.cells #[.int .u8 0, .string ⟨#[]⟩] 103)
  rd : RdZ u R vL st
  rl : R < w.heap.size
section
variable {w u u' : World} {R M : Nat} {vL : Value} {st st' : Except (Nat × Int) Nat}
theorem Ml.low (h : Ml w R vL st u) (hb : Below u.heap.size u u') : Ml w R vL st u' := ⟨grown_two h.gr (low_grown hb _), (hb.block _ (Array.getElem?_eq_some_iff.1 h.b0).1).trans h.b0, h.rd.low hb, h.rl⟩
theorem Ml.call (h : Ml w R vL st u) (hg : u.grownBy u' (some R)) (q : RdZ u' R vL st') : Ml w R vL st' u' := ⟨grown_two h.gr hg, (hg.block _ (Array.getElem?_eq_some_iff.1 h.b0).1 (fun e => by have := Option.some.inj e; have := h.rl; omega)).trans h.b0, q, h.rl⟩
theorem Ml.other (h : Ml w R vL st u) (j : Nat) (z : Value) (hM : w.heap.size < M) : Ml w R vL st (u.setCell ⟨M, j, none⟩ z) := ⟨grown_new h.gr (by omega) j z, (Below.heap_setCell _ _ _ _ (by show w.heap.size ≠ M; omega)).trans h.b0, h.rd.off (grown_set u M j z) (fun e => by have := Option.some.inj e; have := h.rl; omega), h.rl⟩
theorem Ml.cells (h : Ml w R vL st u) : u.cell? ⟨w.heap.size, 0, none⟩ = some (.int .u8 0) ∧ u.cell? ⟨w.heap.size, 1, none⟩ = some (.string ⟨#[]⟩) ∧ (∀ j, u.frozen? ⟨w.heap.size, j, none⟩ = false) := ⟨by rw [Lib.cell_of_heap h.b0]; rfl, by rw [Lib.cell_of_heap h.b0]; rfl, fun j => Lib.frozen_of_heap h.b0 j⟩
theorem Ml.fin (h : Ml w R vL st u) (z : Int) (tx : List UInt8) :
    ((u.setCell ⟨w.heap.size, 0, none⟩ (.int .u8 z)).setCell ⟨w.heap.size, 1, none⟩ (.string ⟨tx.toArray⟩)).heap[w.heap.size]? = some (.cells #[.int .u8 z, .string ⟨tx.toArray⟩] 103) ∧ RdZ ((u.setCell ⟨w.heap.size, 0, none⟩ (.int .u8 z)).setCell ⟨w.heap.size, 1, none⟩ (.string ⟨tx.toArray⟩)) R vL st ∧ w.grownBy ((u.setCell ⟨w.heap.size, 0, none⟩ (.int .u8 z)).setCell ⟨w.heap.size, 1, none⟩ (.string ⟨tx.toArray⟩)) (some R) := by
  have hr := h.rl
  refine ⟨heap_setCell_same _ _ 1 _ _ (.string ⟨tx.toArray⟩) (heap_setCell_same u _ 0 _ _ (.int .u8 z) h.b0), (h.rd.off (grown_set u _ 0 _) (fun e => by have := Option.some.inj e; omega)).off (grown_set _ _ 1 _) (fun e => by have := Option.some.inj e; omega), grown_new (grown_new h.gr (Nat.le_refl _) 0 _) (Nat.le_refl _) 1 _⟩
end
end Go.Proofs.YtgiojkhmkeocfaaGreatDoor

/- The code's hunk of layer 16: its variables while its lines are read; what is still to be read. -/
set_option maxRecDepth 20000
namespace Go.Proofs.YtgiojkhmkeocfaaGreatDoor
open Go.RowKit Go.Proofs.YtgiojkhmkeocfaaGreatDoor.Tx

/-- the variables of hunk: the result, the hunk that is read, what is left of it, and the reader -/
structure Uz (w : World) (R T C : Nat) (vL : Value) (A AN B BN : Int) (v : Value) (l : List Mk) (a b p : Nat) (u : World) : Prop where
  gr : w.grownBy u (some R)
  bg : Hx u w.heap.size zhk (.slice none 0 0)
  bh : Hx u T ⟨A, AN, B, BN, l⟩ v
  bl : u.heap[C]? = some (ctO a b)
  own : u.ownsRow w.heap.size 103 2 v l.length (mkcells l)
  ck : Uk u R vL (p : Int)
  tl : w.heap.size < T
  cl : T < C
  rl : R < w.heap.size
section
variable {w u u' : World} {R T C : Nat} {vL v : Value} {A AN B BN : Int} {l : List Mk} {a b p p' : Nat}
theorem Uz.keep (h : Uz w R T C vL A AN B BN v l a b p u) (hb : Below u.heap.size u u') : Uz w R T C vL A AN B BN v l a b p u' :=
  ⟨grown_two h.gr (low_grown hb _), h.bg.low hb, h.bh.low hb, (hb.block _ (Array.getElem?_eq_some_iff.1 h.bl).1).trans h.bl, owns_keep h.own hb, h.ck.low hb, h.tl, h.cl, h.rl⟩
theorem Uz.call (h : Uz w R T C vL A AN B BN v l a b p u) (hg : u.grownBy u' (some R)) (q : Uk u' R vL (p' : Int)) : Uz w R T C vL A AN B BN v l a b p' u' := by
  have h1 := h.tl
  have h2 := h.cl
  have h3 := h.rl
  exact ⟨grown_two h.gr hg, h.bg.keep hg (fun e => by have := Option.some.inj e; omega), h.bh.keep hg (fun e => by have := Option.some.inj e; omega), (hg.block C (Array.getElem?_eq_some_iff.1 h.bl).1 (fun e => by have := Option.some.inj e; omega)).trans h.bl, owns_fr h.own hg h.rl, q, h.tl, h.cl, h.rl⟩
/-- a cell of another box is written -/
theorem Uz.other (h : Uz w R T C vL A AN B BN v l a b p u) {S : Nat} {cs : Array Value} {t : TypeId} (hS : u.heap[S]? = some (.cells cs t)) (ht : 103 ≠ t ∨ v.ownBlock ≠ some S) (h0 : C < S) (j : Nat) (z : Value) : Uz w R T C vL A AN B BN v l a b p (u.setCell ⟨S, j, none⟩ z) := by
  have h1 := h.tl
  have h2 := h.cl
  have h3 := h.rl
  have hg := grown_set u S j z
  refine ⟨grown_new h.gr (by omega) j z, h.bg.keep hg (fun e => by have := Option.some.inj e; omega), h.bh.keep hg (fun e => by have := Option.some.inj e; omega), (Below.heap_setCell _ _ _ _ (show C ≠ S by omega)).trans h.bl, h.own.kept hg (.inr ?_), h.ck.keep hg (fun e => by have := Option.some.inj e; omega), h.tl, h.cl, h.rl⟩
  rcases ht with ht | ht
  · exact own_box2 h.own hS ht
  · exact ht
theorem Uz.left (h : Uz w R T C vL A AN B BN v l a b p u) : u.cell? ⟨C, 0, none⟩ = some (.int .i64 (a : Int)) ∧ u.cell? ⟨C, 1, none⟩ = some (.int .i64 (b : Int)) ∧ u.frozen? ⟨C, 0, none⟩ = false ∧ u.frozen? ⟨C, 1, none⟩ = false := by
  have e : u.heap[C]? = some (.cells #[.int .i64 (a : Int), .int .i64 (b : Int)] 230) := h.bl
  exact ⟨by rw [Lib.cell_of_heap e]; rfl, by rw [Lib.cell_of_heap e]; rfl, Lib.frozen_of_heap e 0, Lib.frozen_of_heap e 1⟩
/-- one line more -/
theorem Uz.more (h : Uz w R T C vL A AN B BN v l a b p u) {m : Mk} {v' : Value} (hg : u.grownBy u' v.ownBlock) (ho : u'.ownsRow w.heap.size 103 2 v' (l.length + 1) (mkcells l ++ mkcells [m])) :
    Uz w R T C vL A AN B BN v' (l ++ [m]) a b p (u'.setCell ⟨T, 4, none⟩ v') ∧ u'.cell? ⟨T, 4, none⟩ = some v ∧ u'.frozen? ⟨T, 4, none⟩ = false := by
  have h1 := h.tl
  have h2 := h.cl
  have h3 := h.rl
  have hge : ∀ j, v.ownBlock = some j → w.heap.size ≤ j := fun j hj => owns_ge h.own hj
  have kb : ∀ (i : Nat) (cs : Array Value) (t : TypeId), 103 ≠ t → u.heap[i]? = some (.cells cs t) → u'.heap[i]? = some (.cells cs t) := fun i cs t ht hi => (hg.block i (Array.getElem?_eq_some_iff.1 hi).1 (fun e => own_box2 h.own hi ht e.symm)).trans hi
  have bh : Hx u' T ⟨A, AN, B, BN, l⟩ v := kb _ _ _ (by decide) h.bh
  have bg : Hx u' w.heap.size zhk (.slice none 0 0) := kb _ _ _ (by decide) h.bg
  have bl : u'.heap[C]? = some (ctO a b) := kb _ _ _ (by decide) h.bl
  have hgR : w.grownBy u' (some R) := ⟨hg.os.trans h.gr.os, hg.tape.trans h.gr.tape, hg.output.trans h.gr.output, Nat.le_trans h.gr.size hg.size, fun k h1 h2 => (hg.block k (Nat.lt_of_lt_of_le h1 h.gr.size) (fun e => by have := hge k e.symm; omega)).trans (h.gr.block k h1 h2)⟩
  have hck : Uk u' R vL (p : Int) := h.ck.keep hg (fun e => by have := hge R e.symm; omega)
  have hg2 := grown_set u' T 4 v'
  refine ⟨⟨grown_new hgR (by omega) 4 v', bg.keep hg2 (fun e => by have := Option.some.inj e; omega), heap_setCell_same u' T 4 _ _ v' bh, (Below.heap_setCell _ _ _ _ (show C ≠ T by omega)).trans bl, ?_, hck.keep hg2 (fun e => by have := Option.some.inj e; omega), h.tl, h.cl, h.rl⟩, bh.cells.2.2.2.2, bh.frozen 4⟩
  rw [mkcells_append, List.length_append]
  exact ho.kept hg2 (.inr (own_box2 ho bh (by decide)))
end
end Go.Proofs.YtgiojkhmkeocfaaGreatDoor

/- The code's hunk of layer 16, walked. -/
set_option maxRecDepth 20000
namespace Go.Proofs.YtgiojkhmkeocfaaGreatDoor
open Go.RowKit Go.Proofs.YtgiojkhmkeocfaaGreatDoor.Tx
attribute [local go_sem] ByteArray.extract_mk no_at

end Go.Proofs.YtgiojkhmkeocfaaGreatDoor

/- The code's reader of layer 16: a patch as the code reads it; its box and the rows of its hunks. -/
set_option maxRecDepth 20000
namespace Go.Proofs.YtgiojkhmkeocfaaGreatDoor
open Go.RowKit

/-- a patch's box, the rows of its hunks, and the reader -/
structure Pzu (wb : World) (R S : Nat) (vL : Value) (n1 n2 : List UInt8) (hv : Value) (P : List (Hk × Value)) (p : Nat) (u : World) : Prop where
  gr : wb.grownBy u (some R)
  box : u.heap[S]? = some (.cells #[.string ⟨n1.toArray⟩, .string ⟨n2.toArray⟩, hv] 55)
  own : u.ownsRow wb.heap.size 59 5 hv P.length (hkcells P)
  ins : ∀ x ∈ P, u.ownsRow wb.heap.size 103 2 x.2 x.1.ls.length (mkcells x.1.ls)
  ck : Uk u R vL (p : Int)
  ge : wb.heap.size ≤ S
  rl : R < wb.heap.size
section
variable {wb u u' : World} {R S : Nat} {vL hv : Value} {n1 n2 : List UInt8} {P : List (Hk × Value)} {p p' : Nat}
theorem Pzu.keep (h : Pzu wb R S vL n1 n2 hv P p u) (hb : Below u.heap.size u u') : Pzu wb R S vL n1 n2 hv P p u' := ⟨grown_two h.gr (low_grown hb _), (hb.block S (Array.getElem?_eq_some_iff.1 h.box).1).trans h.box, owns_keep h.own hb, fun x hx => owns_keep (h.ins x hx) hb, h.ck.low hb, h.ge, h.rl⟩
theorem Pzu.ne (h : Pzu wb R S vL n1 n2 hv P p u) : R ≠ S := by have h1 := h.ge; have h2 := h.rl; omega
/-- a call that moves the reader -/
theorem Pzu.call (h : Pzu wb R S vL n1 n2 hv P p u) (hg : u.grownBy u' (some R)) (q : Uk u' R vL (p' : Int)) : Pzu wb R S vL n1 n2 hv P p' u' := ⟨grown_two h.gr hg, (hg.block S (Array.getElem?_eq_some_iff.1 h.box).1 (fun e => h.ne (Option.some.inj e).symm)).trans h.box, owns_fr h.own hg h.rl, fun x hx => owns_fr (h.ins x hx) hg h.rl, q, h.ge, h.rl⟩
theorem Pzu.next (h : Pzu wb R S vL n1 n2 hv P p u) : Pzu wb R S vL n1 n2 hv P (p + 1) (u.setCell ⟨R, 1, none⟩ (.int .i64 ((p : Int) + 1))) := h.call (grown_set u R 1 _) (by have := h.ck.at ((p : Int) + 1); simpa using this)
theorem Pzu.cells (h : Pzu wb R S vL n1 n2 hv P p u) : u.cell? ⟨S, 0, none⟩ = some (.string ⟨n1.toArray⟩) ∧ u.cell? ⟨S, 1, none⟩ = some (.string ⟨n2.toArray⟩) ∧ u.cell? ⟨S, 2, none⟩ = some hv := by
  refine ⟨?_, ?_, ?_⟩ <;> rw [Lib.cell_of_heap h.box] <;> rfl
theorem Pzu.frozen (h : Pzu wb R S vL n1 n2 hv P p u) (j : Nat) : u.frozen? ⟨S, j, none⟩ = false := Lib.frozen_of_heap h.box j
/-- a cell of the box is written -/
theorem Pzu.put (h : Pzu wb R S vL n1 n2 hv P p u) (j : Nat) (z : Value) {m1 m2 : List UInt8} {hv' : Value} (hc : #[Value.string ⟨n1.toArray⟩, .string ⟨n2.toArray⟩, hv].setIfInBounds j z = #[.string ⟨m1.toArray⟩, .string ⟨m2.toArray⟩, hv']) (ho : u.ownsRow wb.heap.size 59 5 hv' P.length (hkcells P)) : Pzu wb R S vL m1 m2 hv' P p (u.setCell ⟨S, j, none⟩ z) := by
  have hg := grown_set u S j z
  refine ⟨grown_new h.gr h.ge j z, ?_, ho.kept hg (.inr (own_box2 ho h.box (by decide))), fun x hx => (h.ins x hx).kept hg (.inr (own_box2 (h.ins x hx) h.box (by decide))), h.ck.keep hg (fun e => h.ne (Option.some.inj e)), h.ge, h.rl⟩
  have := heap_setCell_same u S j _ _ z h.box
  rw [hc] at this
  exact this
end
end Go.Proofs.YtgiojkhmkeocfaaGreatDoor

/- The reference's hunk of layer 16, walked. -/
set_option maxRecDepth 20000
namespace Go.Proofs.YtgiojkhmkeocfaaGreatDoor
open Go.RowKit Go.Proofs.YtgiojkhmkeocfaaGreatDoor.Tx
attribute [local go_sem] ByteArray.extract_mk no_at

/-- the variables of hunk: the result, the hunk that is read, and the reader -/
structure Uy (w : World) (R T : Nat) (vL : Value) (A AN B BN : Int) (v : Value) (l : List Mk) (st : Except (Nat × Int) Nat) (u : World) : Prop where
  gr : w.grownBy u (some R)
  bg : Hx u w.heap.size zhk (.slice none 0 0)
  bh : Hx u T ⟨A, AN, B, BN, l⟩ v
  own : u.ownsRow w.heap.size 103 2 v l.length (mkcells l)
  rd : RdZ u R vL st
  tl : w.heap.size < T
  rl : R < w.heap.size
section
variable {w u u' : World} {R T : Nat} {vL v : Value} {A AN B BN : Int} {l : List Mk} {st st' : Except (Nat × Int) Nat}
theorem Uy.keep (h : Uy w R T vL A AN B BN v l st u) (hb : Below u.heap.size u u') : Uy w R T vL A AN B BN v l st u' :=
  ⟨grown_two h.gr (low_grown hb _), h.bg.low hb, h.bh.low hb, owns_keep h.own hb, h.rd.low hb, h.tl, h.rl⟩
theorem Uy.call (h : Uy w R T vL A AN B BN v l st u) (hg : u.grownBy u' (some R)) (q : RdZ u' R vL st') : Uy w R T vL A AN B BN v l st' u' := by
  have h1 := h.tl
  have h3 := h.rl
  exact ⟨grown_two h.gr hg, h.bg.keep hg (fun e => by have := Option.some.inj e; omega), h.bh.keep hg (fun e => by have := Option.some.inj e; omega), owns_fr h.own hg h.rl, q, h.tl, h.rl⟩
/-- a cell of another box is written -/
theorem Uy.other (h : Uy w R T vL A AN B BN v l st u) {S : Nat} (ht : v.ownBlock ≠ some S) (h0 : T < S) (j : Nat) (z : Value) : Uy w R T vL A AN B BN v l st (u.setCell ⟨S, j, none⟩ z) := by
  have h1 := h.tl
  have h3 := h.rl
  have hg := grown_set u S j z
  exact ⟨grown_new h.gr (by omega) j z, h.bg.keep hg (fun e => by have := Option.some.inj e; omega), h.bh.keep hg (fun e => by have := Option.some.inj e; omega), h.own.kept hg (.inr ht), h.rd.off hg (fun e => by have := Option.some.inj e; omega), h.tl, h.rl⟩
/-- one line more -/
theorem Uy.more (h : Uy w R T vL A AN B BN v l st u) {m : Mk} {v' : Value} (hg : u.grownBy u' v.ownBlock) (ho : u'.ownsRow w.heap.size 103 2 v' (l.length + 1) (mkcells l ++ mkcells [m])) :
    Uy w R T vL A AN B BN v' (l ++ [m]) st (u'.setCell ⟨T, 4, none⟩ v') ∧ u'.cell? ⟨T, 4, none⟩ = some v ∧ u'.frozen? ⟨T, 4, none⟩ = false := by
  have h1 := h.tl
  have h3 := h.rl
  have hge : ∀ j, v.ownBlock = some j → w.heap.size ≤ j := fun j hj => owns_ge h.own hj
  have kb : ∀ (i : Nat) (cs : Array Value) (t : TypeId), 103 ≠ t → u.heap[i]? = some (.cells cs t) → u'.heap[i]? = some (.cells cs t) := fun i cs t ht hi => (hg.block i (Array.getElem?_eq_some_iff.1 hi).1 (fun e => own_box2 h.own hi ht e.symm)).trans hi
  have bh : Hx u' T ⟨A, AN, B, BN, l⟩ v := kb _ _ _ (by decide) h.bh
  have bg : Hx u' w.heap.size zhk (.slice none 0 0) := kb _ _ _ (by decide) h.bg
  have hgR : w.grownBy u' (some R) := ⟨hg.os.trans h.gr.os, hg.tape.trans h.gr.tape, hg.output.trans h.gr.output, Nat.le_trans h.gr.size hg.size, fun k h1 h2 => (hg.block k (Nat.lt_of_lt_of_le h1 h.gr.size) (fun e => by have := hge k e.symm; omega)).trans (h.gr.block k h1 h2)⟩
  have hck : RdZ u' R vL st := h.rd.off hg (fun e => by have := hge R e.symm; omega)
  have hg2 := grown_set u' T 4 v'
  refine ⟨⟨grown_new hgR (by omega) 4 v', bg.keep hg2 (fun e => by have := Option.some.inj e; omega), heap_setCell_same u' T 4 _ _ v' bh, ?_, hck.off hg2 (fun e => by have := Option.some.inj e; omega), h.tl, h.rl⟩, bh.cells.2.2.2.2, bh.frozen 4⟩
  rw [mkcells_append, List.length_append]
  exact ho.kept hg2 (.inr (own_box2 ho bh (by decide)))
theorem Uy.fin (h : Uy w R T vL A AN B BN v l st u) : (five u w.heap.size A AN B BN v).heap[w.heap.size]? = some (.cells #[.int .i64 A, .int .i64 AN, .int .i64 B, .int .i64 BN, v] 59 (0, 0)) ∧ (five u w.heap.size A AN B BN v).ownsRow w.heap.size 103 2 v l.length (mkcells l) ∧ RdZ (five u w.heap.size A AN B BN v) R vL st ∧ w.grownBy (five u w.heap.size A AN B BN v) (some R) := by
  have h3 := h.rl
  have hvb : v.ownBlock ≠ some w.heap.size := own_box2 h.own h.bg (by decide)
  have hR : ∀ {u : World} (q : RdZ u R vL st) (j : Nat) (z : Value), RdZ (u.setCell ⟨w.heap.size, j, none⟩ z) R vL st := fun q j z => q.off (grown_set _ _ j z) (fun e => by have := Option.some.inj e; omega)
  exact ⟨five_hx h.bg A AN B BN v, ((((h.own.kept (grown_set _ _ 0 _) (.inr hvb)).kept (grown_set _ _ 1 _) (.inr hvb)).kept (grown_set _ _ 2 _) (.inr hvb)).kept (grown_set _ _ 3 _) (.inr hvb)).kept (grown_set _ _ 4 _) (.inr hvb), hR (hR (hR (hR (hR h.rd 0 _) 1 _) 2 _) 3 _) 4 _, five_gr h.gr (Nat.le_refl _) A AN B BN v⟩
end
end Go.Proofs.YtgiojkhmkeocfaaGreatDoor

/- errors.As at two concrete targets, walked over Go's own text: an error that is a fault's pointer, an error that is a number. The model's entries for internal/reflectlite at this program: closed facts, and three small laws on those that read or write memory. -/
set_option maxRecDepth 20000
namespace Go.Proofs.YtgiojkhmkeocfaaGreatDoor.Es
open Go.RowKit Go.Extern.Stop Go.Stop Go.Extern

theorem mKind (h : Value) (w : World) : (Go.method 486 193 (.agg #[h]) "Kind").run Tryz.prog w = .ok (329, h) w := by kernel_rfl
theorem mElem (h : Value) (w : World) : (Go.method 486 193 (.agg #[h]) "Elem").run Tryz.prog w = .ok (342, .agg #[h]) w := by kernel_rfl
theorem mImplements (h : Value) (w : World) : (Go.method 486 193 (.agg #[h]) "Implements").run Tryz.prog w = .ok (343, .agg #[h]) w := by kernel_rfl
theorem mAssignableTo (h : Value) (w : World) : (Go.method 486 193 (.agg #[h]) "AssignableTo").run Tryz.prog w = .ok (340, .agg #[h]) w := by kernel_rfl

theorem Ef.valueOfP (t : Addr) (w : World) : (ReflectliteValue.unpack (.iface 95 (.pointer (some t)))).run Tryz.prog w
    = .ok (.agg #[.pointer (some ⟨7, 95, none⟩), .pointer (some ⟨w.heap.size, 0, none⟩), .int .u64 150]) (w.alloc (.cells #[.pointer (some t)] 95)) := by kernel_rfl
theorem Ef.typeP (a : Addr) (w : World) : (ReflectliteValue.methodAny (ReflectliteValue.valueError "reflectlite.Value.Type" 0) (fun t _ _ _ => ReflectliteType.toType t) #[.agg #[.pointer (some ⟨7, 95, none⟩), .pointer (some a), .int .u64 150]]).run Tryz.prog w
    = .ok (.iface 193 (.agg #[.pointer (some ⟨7, 95, none⟩)])) w := by kernel_rfl
theorem Ef.kindP (w : World) : ((ReflectliteType.abiMethod fun t => Functor.map (fun a : Nat => Value.int IntKind.u8 (a : Int)) (Rtype.kind t)) #[.pointer (some ⟨7, 95, none⟩)]).run Tryz.prog w = .ok (.int .u8 22) w := by kernel_rfl
theorem Ef.kindE (w : World) : ((ReflectliteType.abiMethod fun t => Functor.map (fun a : Nat => Value.int IntKind.u8 (a : Int)) (Rtype.kind t)) #[.pointer (some ⟨7, 86, none⟩)]).run Tryz.prog w = .ok (.int .u8 22) w := by kernel_rfl
theorem Ef.partsP (a : Addr) (w : World) : (ReflectliteValue.parts (.agg #[.pointer (some ⟨7, 95, none⟩), .pointer (some a), .int .u64 150])).run Tryz.prog w = .ok (some (95, a, 150)) w := by kernel_rfl
theorem Ef.isNilP (a p : Addr) (W : World) (ha : W.cell? a = some (.pointer (some p))) :
    (ReflectliteValue.method (ReflectliteValue.valueError "reflectlite.Value.IsNil" 0) ReflectliteValue.isNil #[.agg #[.pointer (some ⟨7, 95, none⟩), .pointer (some a), .int .u64 150]]).run Tryz.prog W = .ok (.bool false) W := by
  show Sem.run Tryz.prog (ReflectliteValue.parts (.agg #[.pointer (some ⟨7, 95, none⟩), .pointer (some a), .int .u64 150]) >>= _) W = _
  simp only [Sem.run_bind, Ef.partsP, Result.andThen]
  simp [ReflectliteValue.isNil, loadVar, isAgg, underlying, Tryz.underlying95, ha, Result.andThen]
theorem Ef.elemP (w : World) : (ReflectliteType.method ReflectliteType.elem #[.agg #[.pointer (some ⟨7, 95, none⟩)]]).run Tryz.prog w = .ok (.iface 193 (.agg #[.pointer (some ⟨7, 86, none⟩)])) w := by kernel_rfl
theorem Ef.implementsE (w : World) : (ReflectliteType.relation "Implements" ReflectliteType.implements_ #[.agg #[.pointer (some ⟨7, 86, none⟩)], .iface 193 (.agg #[.pointer (some ⟨7, 36, none⟩)])]).run Tryz.prog w = .ok (.bool true) w := by kernel_rfl
theorem Ef.typeOfE (v : Value) (w : World) : (ReflectliteType.typeOf #[.iface 86 v]).run Tryz.prog w = .ok (.iface 193 (.agg #[.pointer (some ⟨7, 86, none⟩)])) w := by kernel_rfl
theorem Ef.assignableE (w : World) : (ReflectliteType.relation "AssignableTo" ReflectliteType.assignableTo #[.agg #[.pointer (some ⟨7, 86, none⟩)], .iface 193 (.agg #[.pointer (some ⟨7, 86, none⟩)])]).run Tryz.prog w = .ok (.bool true) w := by kernel_rfl
theorem Ef.valueOfE (e : Addr) (w : World) : (ReflectliteValue.unpack (.iface 86 (.pointer (some e)))).run Tryz.prog w
    = .ok (.agg #[.pointer (some ⟨7, 86, none⟩), .pointer (some ⟨w.heap.size, 0, none⟩), .int .u64 150]) (w.alloc (.cells #[.pointer (some e)] 86)) := by kernel_rfl
theorem Ef.elemOfP (w : World) : (Rtype.elem? 95).run Tryz.prog w = .ok (some 86) w := by kernel_rfl
theorem Ef.mkE (p : Addr) (w : World) : (ReflectliteValue.mk 86 p ReflectliteValue.flagAddr).run Tryz.prog w = .ok (.agg #[.pointer (some ⟨7, 86, none⟩), .pointer (some p), .int .u64 406]) w := by kernel_rfl
theorem Ef.elemVP (a p : Addr) (W : World) (ha : W.cell? a = some (.pointer (some p))) :
    (ReflectliteValue.method (ReflectliteValue.valueError "reflectlite.Value.Elem" 0) ReflectliteValue.elem #[.agg #[.pointer (some ⟨7, 95, none⟩), .pointer (some a), .int .u64 150]]).run Tryz.prog W
      = .ok (.agg #[.pointer (some ⟨7, 86, none⟩), .pointer (some p), .int .u64 406]) W := by
  show Sem.run Tryz.prog (ReflectliteValue.parts (.agg #[.pointer (some ⟨7, 95, none⟩), .pointer (some a), .int .u64 150]) >>= _) W = _
  simp only [Sem.run_bind, Ef.partsP, Result.andThen]
  simp [ReflectliteValue.elem, loadVar, isAgg, underlying, Tryz.underlying95, ha, Result.andThen, Ef.elemOfP, Ef.mkE]
theorem Ef.partsEa (a : Addr) (w : World) : (ReflectliteValue.parts (.agg #[.pointer (some ⟨7, 86, none⟩), .pointer (some a), .int .u64 406])).run Tryz.prog w = .ok (some (86, a, 406)) w := by kernel_rfl
theorem Ef.partsE (a : Addr) (w : World) : (ReflectliteValue.parts (.agg #[.pointer (some ⟨7, 86, none⟩), .pointer (some a), .int .u64 150])).run Tryz.prog w = .ok (some (86, a, 150)) w := by kernel_rfl
theorem Ef.directE (w : World) : (Rtype.directlyAssignable 86 86).run Tryz.prog w = .ok true w := by kernel_rfl
theorem Ef.setE (ta b : Addr) (e : Addr) (old : Value) (W : World) (hb : W.cell? b = some (.pointer (some e))) (ht : W.cell? ta = some old) (hf : W.frozen? ta = false) :
    (ReflectliteValue.set #[.agg #[.pointer (some ⟨7, 86, none⟩), .pointer (some ta), .int .u64 406], .agg #[.pointer (some ⟨7, 86, none⟩), .pointer (some b), .int .u64 150]]).run Tryz.prog W
      = .ok (.tuple #[]) (W.setCell ta (.pointer (some e))) := by
  show Sem.run Tryz.prog (ReflectliteValue.parts (.agg #[.pointer (some ⟨7, 86, none⟩), .pointer (some ta), .int .u64 406]) >>= fun p => ReflectliteValue.parts (.agg #[.pointer (some ⟨7, 86, none⟩), .pointer (some b), .int .u64 150]) >>= fun q => _) W = _
  simp only [Sem.run_bind, Ef.partsEa, Ef.partsE, Result.andThen]
  simp [ReflectliteValue.flagAddr, loadVar, isAgg, underlying, Tryz.underlying86, hb, Result.andThen, Ef.directE, storeVar, Value.cells, storeCells, Addr.add]
  rw [run_store Tryz.prog W ta _ _ (by rfl)]
  simp [ht, hf]
set_option maxHeartbeats 4000000 in
theorem Ef.as_hit (e : Addr) (t : Addr) (old : Value) (w : World) (hg : w.cell? ⟨0, 0, none⟩ = some (.iface 193 (.agg #[.pointer (some ⟨7, 36, none⟩)]))) (ht0 : w.cell? t = some old) (hf0 : w.frozen? t = false) :
    Calls Tryz.prog 45 #[.iface 86 (.pointer (some e)), .iface 95 (.pointer (some t))] w fun ev w' => ev = .returned (.bool true) ∧ w' = ((((w.alloc (.cells #[.pointer (some t)] 95)).alloc (.cells #[.pointer (some ⟨7, 95, none⟩), .pointer (some ⟨w.heap.size, 0, none⟩), .int .u64 150] 146)).alloc (.cells #[.pointer (some ⟨7, 95, none⟩), .pointer (some ⟨w.heap.size, 0, none⟩), .int .u64 150] 146)).alloc (.cells #[.pointer (some e)] 86)).setCell t (.pointer (some e)) := by
  have h6 := @run_callFunc_extern Tryz.prog 89 _ (fun args => ReflectliteValue.unpack (args.getD 0 (.tuple #[]))) Tryz.func89 (by kernel_rfl) (by kernel_rfl) (by kernel_rfl) (by kernel_rfl)
  have h7 := @run_callFunc_extern Tryz.prog 90 _ (ReflectliteValue.methodAny (ReflectliteValue.valueError "reflectlite.Value.Type" 0) (fun t _ _ _ => ReflectliteType.toType t)) Tryz.func90 (by kernel_rfl) (by kernel_rfl) (by kernel_rfl) (by kernel_rfl)
  have h8 := @run_callFunc_extern Tryz.prog 91 _ (ReflectliteValue.method (ReflectliteValue.valueError "reflectlite.Value.IsNil" 0) ReflectliteValue.isNil) Tryz.func91 (by kernel_rfl) (by kernel_rfl) (by kernel_rfl) (by kernel_rfl)
  have h27 := @run_callFunc_extern Tryz.prog 329 _ (ReflectliteType.abiMethod fun t => do pure (.int .u8 (← Rtype.kind t))) Tryz.func329 (by kernel_rfl) (by kernel_rfl) (by kernel_rfl) (by kernel_rfl)
  have h37 := @run_callFunc_extern Tryz.prog 342 _ (ReflectliteType.method ReflectliteType.elem) Tryz.func342 (by kernel_rfl) (by kernel_rfl) (by kernel_rfl) (by kernel_rfl)
  have h38 := @run_callFunc_extern Tryz.prog 343 _ (ReflectliteType.relation "Implements" ReflectliteType.implements_) Tryz.func343 (by kernel_rfl) (by kernel_rfl) (by kernel_rfl) (by kernel_rfl)
  have h10 := @run_callFunc_extern Tryz.prog 143 _ ReflectliteType.typeOf Tryz.func143 (by kernel_rfl) (by kernel_rfl) (by kernel_rfl) (by kernel_rfl)
  have h35 := @run_callFunc_extern Tryz.prog 340 _ (ReflectliteType.relation "AssignableTo" ReflectliteType.assignableTo) Tryz.func340 (by kernel_rfl) (by kernel_rfl) (by kernel_rfl) (by kernel_rfl)
  have h11 := @run_callFunc_extern Tryz.prog 144 _ (ReflectliteValue.method (ReflectliteValue.valueError "reflectlite.Value.Elem" 0) ReflectliteValue.elem) Tryz.func144 (by kernel_rfl) (by kernel_rfl) (by kernel_rfl) (by kernel_rfl)
  have h12 := @run_callFunc_extern Tryz.prog 145 _ ReflectliteValue.set Tryz.func145 (by kernel_rfl) (by kernel_rfl) (by kernel_rfl) (by kernel_rfl)
  have tO := Ef.typeOfE
  have mA := mAssignableTo
  have a25 := Ef.assignableE
  have v25 := Ef.valueOfE
  have f6 := Ef.valueOfP
  have f7 := Ef.typeP
  have mK := mKind
  have mE := mElem
  have mI := mImplements
  have k27 := Ef.kindP
  have k25 := Ef.kindE
  have e27 := Ef.elemP
  have i25 := Ef.implementsE
  have n8 := Ef.isNilP ⟨w.heap.size, 0, none⟩ t ((w.alloc (.cells #[.pointer (some t)] 95)).alloc (.cells #[.pointer (some ⟨7, 95, none⟩), .pointer (some ⟨w.heap.size, 0, none⟩), .int .u64 150] 146)) (by simp)
  have hlt : 0 < w.heap.size := by
    rcases Nat.lt_or_ge 0 w.heap.size with h | h
    · exact h
    · simp [World.cell?, Array.getElem?_eq_none h] at hg
  have hg2 : ((w.alloc (.cells #[.pointer (some t)] 95)).alloc (.cells #[.pointer (some ⟨7, 95, none⟩), .pointer (some ⟨w.heap.size, 0, none⟩), .int .u64 150] 146)).cell? ⟨0, 0, none⟩ = some (.iface 193 (.agg #[.pointer (some ⟨7, 36, none⟩)])) := by
    rw [World.cell?_alloc_lt _ _ ⟨0, 0, none⟩ (by simp <;> omega), World.cell?_alloc_lt _ _ ⟨0, 0, none⟩ hlt]; exact hg
  have htl : t.block < w.heap.size := by
    rcases Nat.lt_or_ge t.block w.heap.size with h | h
    · exact h
    · simp [World.cell?, Array.getElem?_eq_none h] at ht0
  have el := Ef.elemVP ⟨w.heap.size, 0, none⟩ t (((w.alloc (.cells #[.pointer (some t)] 95)).alloc (.cells #[.pointer (some ⟨7, 95, none⟩), .pointer (some ⟨w.heap.size, 0, none⟩), .int .u64 150] 146)).alloc (.cells #[.pointer (some ⟨7, 95, none⟩), .pointer (some ⟨w.heap.size, 0, none⟩), .int .u64 150] 146)) (by rw [World.cell?_alloc_lt _ _ ⟨w.heap.size, 0, none⟩ (by simp; omega)]; simp)
  have st := Ef.setE t ⟨w.heap.size + 1 + 1 + 1, 0, none⟩ e old ((((w.alloc (.cells #[.pointer (some t)] 95)).alloc (.cells #[.pointer (some ⟨7, 95, none⟩), .pointer (some ⟨w.heap.size, 0, none⟩), .int .u64 150] 146)).alloc (.cells #[.pointer (some ⟨7, 95, none⟩), .pointer (some ⟨w.heap.size, 0, none⟩), .int .u64 150] 146)).alloc (.cells #[.pointer (some e)] 86))
    (by rw [World.cell?_alloc_at _ _ _ _ (by simp)]; rfl)
    (by rw [World.cell?_alloc_lt _ _ t (by simp; omega), World.cell?_alloc_lt _ _ t (by simp; omega), World.cell?_alloc_lt _ _ t (by simp; omega), World.cell?_alloc_lt _ _ t htl]; exact ht0)
    (by rw [World.frozen?_alloc_old _ _ t (by simp; omega), World.frozen?_alloc_old _ _ t (by simp; omega), World.frozen?_alloc_old _ _ t (by simp; omega), World.frozen?_alloc_old _ _ t (Nat.ne_of_lt htl)]; exact hf0)
  go_enter Tryz.func45, Tryz.ntmps45
  go_wp2
  refine wp_loop_rounds 1 ?_
  rw [rounds_succ]
  go_wp2
  go_ret
  exact ⟨rfl, rfl⟩

theorem En.valueOfP (t : Addr) (w : World) : (ReflectliteValue.unpack (.iface 96 (.pointer (some t)))).run Tryz.prog w
    = .ok (.agg #[.pointer (some ⟨7, 96, none⟩), .pointer (some ⟨w.heap.size, 0, none⟩), .int .u64 150]) (w.alloc (.cells #[.pointer (some t)] 96)) := by kernel_rfl
theorem En.typeP (a : Addr) (w : World) : (ReflectliteValue.methodAny (ReflectliteValue.valueError "reflectlite.Value.Type" 0) (fun t _ _ _ => ReflectliteType.toType t) #[.agg #[.pointer (some ⟨7, 96, none⟩), .pointer (some a), .int .u64 150]]).run Tryz.prog w
    = .ok (.iface 193 (.agg #[.pointer (some ⟨7, 96, none⟩)])) w := by kernel_rfl
theorem En.kindP (w : World) : ((ReflectliteType.abiMethod fun t => Functor.map (fun a : Nat => Value.int IntKind.u8 (a : Int)) (Rtype.kind t)) #[.pointer (some ⟨7, 96, none⟩)]).run Tryz.prog w = .ok (.int .u8 22) w := by kernel_rfl
theorem En.kindE (w : World) : ((ReflectliteType.abiMethod fun t => Functor.map (fun a : Nat => Value.int IntKind.u8 (a : Int)) (Rtype.kind t)) #[.pointer (some ⟨7, 26, none⟩)]).run Tryz.prog w = .ok (.int .u8 2) w := by kernel_rfl
theorem En.partsP (a : Addr) (w : World) : (ReflectliteValue.parts (.agg #[.pointer (some ⟨7, 96, none⟩), .pointer (some a), .int .u64 150])).run Tryz.prog w = .ok (some (96, a, 150)) w := by kernel_rfl
theorem En.isNilP (a p : Addr) (W : World) (ha : W.cell? a = some (.pointer (some p))) :
    (ReflectliteValue.method (ReflectliteValue.valueError "reflectlite.Value.IsNil" 0) ReflectliteValue.isNil #[.agg #[.pointer (some ⟨7, 96, none⟩), .pointer (some a), .int .u64 150]]).run Tryz.prog W = .ok (.bool false) W := by
  show Sem.run Tryz.prog (ReflectliteValue.parts (.agg #[.pointer (some ⟨7, 96, none⟩), .pointer (some a), .int .u64 150]) >>= _) W = _
  simp only [Sem.run_bind, En.partsP, Result.andThen]
  simp [ReflectliteValue.isNil, loadVar, isAgg, underlying, Tryz.underlying96, ha, Result.andThen]
theorem En.elemP (w : World) : (ReflectliteType.method ReflectliteType.elem #[.agg #[.pointer (some ⟨7, 96, none⟩)]]).run Tryz.prog w = .ok (.iface 193 (.agg #[.pointer (some ⟨7, 26, none⟩)])) w := by kernel_rfl
theorem En.implementsE (w : World) : (ReflectliteType.relation "Implements" ReflectliteType.implements_ #[.agg #[.pointer (some ⟨7, 26, none⟩)], .iface 193 (.agg #[.pointer (some ⟨7, 36, none⟩)])]).run Tryz.prog w = .ok (.bool true) w := by kernel_rfl
theorem En.typeOfE (v : Value) (w : World) : (ReflectliteType.typeOf #[.iface 26 v]).run Tryz.prog w = .ok (.iface 193 (.agg #[.pointer (some ⟨7, 26, none⟩)])) w := by kernel_rfl
theorem En.assignableE (w : World) : (ReflectliteType.relation "AssignableTo" ReflectliteType.assignableTo #[.agg #[.pointer (some ⟨7, 26, none⟩)], .iface 193 (.agg #[.pointer (some ⟨7, 26, none⟩)])]).run Tryz.prog w = .ok (.bool true) w := by kernel_rfl
theorem En.valueOfE (z : Int) (w : World) : (ReflectliteValue.unpack (.iface 26 (.int .i64 z))).run Tryz.prog w
    = .ok (.agg #[.pointer (some ⟨7, 26, none⟩), .pointer (some ⟨w.heap.size, 0, none⟩), .int .u64 130]) (w.alloc (.cells #[.int .i64 z] 26)) := by kernel_rfl
theorem En.elemOfP (w : World) : (Rtype.elem? 96).run Tryz.prog w = .ok (some 26) w := by kernel_rfl
theorem En.mkE (p : Addr) (w : World) : (ReflectliteValue.mk 26 p ReflectliteValue.flagAddr).run Tryz.prog w = .ok (.agg #[.pointer (some ⟨7, 26, none⟩), .pointer (some p), .int .u64 386]) w := by kernel_rfl
theorem En.elemVP (a p : Addr) (W : World) (ha : W.cell? a = some (.pointer (some p))) :
    (ReflectliteValue.method (ReflectliteValue.valueError "reflectlite.Value.Elem" 0) ReflectliteValue.elem #[.agg #[.pointer (some ⟨7, 96, none⟩), .pointer (some a), .int .u64 150]]).run Tryz.prog W
      = .ok (.agg #[.pointer (some ⟨7, 26, none⟩), .pointer (some p), .int .u64 386]) W := by
  show Sem.run Tryz.prog (ReflectliteValue.parts (.agg #[.pointer (some ⟨7, 96, none⟩), .pointer (some a), .int .u64 150]) >>= _) W = _
  simp only [Sem.run_bind, En.partsP, Result.andThen]
  simp [ReflectliteValue.elem, loadVar, isAgg, underlying, Tryz.underlying96, ha, Result.andThen, En.elemOfP, En.mkE]
theorem En.partsEa (a : Addr) (w : World) : (ReflectliteValue.parts (.agg #[.pointer (some ⟨7, 26, none⟩), .pointer (some a), .int .u64 386])).run Tryz.prog w = .ok (some (26, a, 386)) w := by kernel_rfl
theorem En.partsE (a : Addr) (w : World) : (ReflectliteValue.parts (.agg #[.pointer (some ⟨7, 26, none⟩), .pointer (some a), .int .u64 130])).run Tryz.prog w = .ok (some (26, a, 130)) w := by kernel_rfl
theorem En.directE (w : World) : (Rtype.directlyAssignable 26 26).run Tryz.prog w = .ok true w := by kernel_rfl
theorem En.setE (ta b : Addr) (z : Int) (old : Value) (W : World) (hb : W.cell? b = some (.int .i64 z)) (ht : W.cell? ta = some old) (hf : W.frozen? ta = false) :
    (ReflectliteValue.set #[.agg #[.pointer (some ⟨7, 26, none⟩), .pointer (some ta), .int .u64 386], .agg #[.pointer (some ⟨7, 26, none⟩), .pointer (some b), .int .u64 130]]).run Tryz.prog W
      = .ok (.tuple #[]) (W.setCell ta (.int .i64 z)) := by
  show Sem.run Tryz.prog (ReflectliteValue.parts (.agg #[.pointer (some ⟨7, 26, none⟩), .pointer (some ta), .int .u64 386]) >>= fun p => ReflectliteValue.parts (.agg #[.pointer (some ⟨7, 26, none⟩), .pointer (some b), .int .u64 130]) >>= fun q => _) W = _
  simp only [Sem.run_bind, En.partsEa, En.partsE, Result.andThen]
  simp [ReflectliteValue.flagAddr, loadVar, isAgg, underlying, Tryz.underlying26, hb, Result.andThen, En.directE, storeVar, Value.cells, storeCells, Addr.add]
  rw [run_store Tryz.prog W ta _ _ (by rfl)]
  simp [ht, hf]
set_option maxHeartbeats 4000000 in
theorem En.as_hit (z : Int) (t : Addr) (old : Value) (w : World) (hg : w.cell? ⟨0, 0, none⟩ = some (.iface 193 (.agg #[.pointer (some ⟨7, 36, none⟩)]))) (ht0 : w.cell? t = some old) (hf0 : w.frozen? t = false) :
    Calls Tryz.prog 45 #[.iface 26 (.int .i64 z), .iface 96 (.pointer (some t))] w fun ev w' => ev = .returned (.bool true) ∧ w' = ((((w.alloc (.cells #[.pointer (some t)] 96)).alloc (.cells #[.pointer (some ⟨7, 96, none⟩), .pointer (some ⟨w.heap.size, 0, none⟩), .int .u64 150] 146)).alloc (.cells #[.pointer (some ⟨7, 96, none⟩), .pointer (some ⟨w.heap.size, 0, none⟩), .int .u64 150] 146)).alloc (.cells #[.int .i64 z] 26)).setCell t (.int .i64 z) := by
  have h6 := @run_callFunc_extern Tryz.prog 89 _ (fun args => ReflectliteValue.unpack (args.getD 0 (.tuple #[]))) Tryz.func89 (by kernel_rfl) (by kernel_rfl) (by kernel_rfl) (by kernel_rfl)
  have h7 := @run_callFunc_extern Tryz.prog 90 _ (ReflectliteValue.methodAny (ReflectliteValue.valueError "reflectlite.Value.Type" 0) (fun t _ _ _ => ReflectliteType.toType t)) Tryz.func90 (by kernel_rfl) (by kernel_rfl) (by kernel_rfl) (by kernel_rfl)
  have h8 := @run_callFunc_extern Tryz.prog 91 _ (ReflectliteValue.method (ReflectliteValue.valueError "reflectlite.Value.IsNil" 0) ReflectliteValue.isNil) Tryz.func91 (by kernel_rfl) (by kernel_rfl) (by kernel_rfl) (by kernel_rfl)
  have h27 := @run_callFunc_extern Tryz.prog 329 _ (ReflectliteType.abiMethod fun t => do pure (.int .u8 (← Rtype.kind t))) Tryz.func329 (by kernel_rfl) (by kernel_rfl) (by kernel_rfl) (by kernel_rfl)
  have h37 := @run_callFunc_extern Tryz.prog 342 _ (ReflectliteType.method ReflectliteType.elem) Tryz.func342 (by kernel_rfl) (by kernel_rfl) (by kernel_rfl) (by kernel_rfl)
  have h38 := @run_callFunc_extern Tryz.prog 343 _ (ReflectliteType.relation "Implements" ReflectliteType.implements_) Tryz.func343 (by kernel_rfl) (by kernel_rfl) (by kernel_rfl) (by kernel_rfl)
  have h10 := @run_callFunc_extern Tryz.prog 143 _ ReflectliteType.typeOf Tryz.func143 (by kernel_rfl) (by kernel_rfl) (by kernel_rfl) (by kernel_rfl)
  have h35 := @run_callFunc_extern Tryz.prog 340 _ (ReflectliteType.relation "AssignableTo" ReflectliteType.assignableTo) Tryz.func340 (by kernel_rfl) (by kernel_rfl) (by kernel_rfl) (by kernel_rfl)
  have h11 := @run_callFunc_extern Tryz.prog 144 _ (ReflectliteValue.method (ReflectliteValue.valueError "reflectlite.Value.Elem" 0) ReflectliteValue.elem) Tryz.func144 (by kernel_rfl) (by kernel_rfl) (by kernel_rfl) (by kernel_rfl)
  have h12 := @run_callFunc_extern Tryz.prog 145 _ ReflectliteValue.set Tryz.func145 (by kernel_rfl) (by kernel_rfl) (by kernel_rfl) (by kernel_rfl)
  have tO := En.typeOfE
  have mA := mAssignableTo
  have a25 := En.assignableE
  have v25 := En.valueOfE
  have f6 := En.valueOfP
  have f7 := En.typeP
  have mK := mKind
  have mE := mElem
  have mI := mImplements
  have k27 := En.kindP
  have k25 := En.kindE
  have e27 := En.elemP
  have i25 := En.implementsE
  have n8 := En.isNilP ⟨w.heap.size, 0, none⟩ t ((w.alloc (.cells #[.pointer (some t)] 96)).alloc (.cells #[.pointer (some ⟨7, 96, none⟩), .pointer (some ⟨w.heap.size, 0, none⟩), .int .u64 150] 146)) (by simp)
  have hlt : 0 < w.heap.size := by
    rcases Nat.lt_or_ge 0 w.heap.size with h | h
    · exact h
    · simp [World.cell?, Array.getElem?_eq_none h] at hg
  have hg2 : ((w.alloc (.cells #[.pointer (some t)] 96)).alloc (.cells #[.pointer (some ⟨7, 96, none⟩), .pointer (some ⟨w.heap.size, 0, none⟩), .int .u64 150] 146)).cell? ⟨0, 0, none⟩ = some (.iface 193 (.agg #[.pointer (some ⟨7, 36, none⟩)])) := by
    rw [World.cell?_alloc_lt _ _ ⟨0, 0, none⟩ (by simp <;> omega), World.cell?_alloc_lt _ _ ⟨0, 0, none⟩ hlt]; exact hg
  have htl : t.block < w.heap.size := by
    rcases Nat.lt_or_ge t.block w.heap.size with h | h
    · exact h
    · simp [World.cell?, Array.getElem?_eq_none h] at ht0
  have el := En.elemVP ⟨w.heap.size, 0, none⟩ t (((w.alloc (.cells #[.pointer (some t)] 96)).alloc (.cells #[.pointer (some ⟨7, 96, none⟩), .pointer (some ⟨w.heap.size, 0, none⟩), .int .u64 150] 146)).alloc (.cells #[.pointer (some ⟨7, 96, none⟩), .pointer (some ⟨w.heap.size, 0, none⟩), .int .u64 150] 146)) (by rw [World.cell?_alloc_lt _ _ ⟨w.heap.size, 0, none⟩ (by simp; omega)]; simp)
  have st := En.setE t ⟨w.heap.size + 1 + 1 + 1, 0, none⟩ z old ((((w.alloc (.cells #[.pointer (some t)] 96)).alloc (.cells #[.pointer (some ⟨7, 96, none⟩), .pointer (some ⟨w.heap.size, 0, none⟩), .int .u64 150] 146)).alloc (.cells #[.pointer (some ⟨7, 96, none⟩), .pointer (some ⟨w.heap.size, 0, none⟩), .int .u64 150] 146)).alloc (.cells #[.int .i64 z] 26))
    (by rw [World.cell?_alloc_at _ _ _ _ (by simp)]; rfl)
    (by rw [World.cell?_alloc_lt _ _ t (by simp; omega), World.cell?_alloc_lt _ _ t (by simp; omega), World.cell?_alloc_lt _ _ t (by simp; omega), World.cell?_alloc_lt _ _ t htl]; exact ht0)
    (by rw [World.frozen?_alloc_old _ _ t (by simp; omega), World.frozen?_alloc_old _ _ t (by simp; omega), World.frozen?_alloc_old _ _ t (by simp; omega), World.frozen?_alloc_old _ _ t (Nat.ne_of_lt htl)]; exact hf0)
  go_enter Tryz.func45, Tryz.ntmps45
  go_wp2
  refine wp_loop_rounds 1 ?_
  rw [rounds_succ]
  go_wp2
  go_ret
  exact ⟨rfl, rfl⟩
end Go.Proofs.YtgiojkhmkeocfaaGreatDoor.Es

/- The law's Seen, walked: which fault an error is. -/
set_option maxRecDepth 20000
namespace Go.Proofs.YtgiojkhmkeocfaaGreatDoor
open Go.RowKit

/-- what errors.errorType holds -/
def ErrT (w : World) : Prop := w.cell? ⟨0, 0, none⟩ = some (.iface 193 (.agg #[.pointer (some ⟨7, 36, none⟩)]))
theorem ErrT.lt {w : World} (h : ErrT w) : 0 < w.heap.size := World.block_lt_of_cell? w _ h
theorem ErrT.low {w u : World} {N : Nat} (h : ErrT w) (hb : Below N w u) (hN : w.heap.size ≤ N) : ErrT u := (World.cell?_of_block (w := w) (hb.block _ (Nat.lt_of_lt_of_le h.lt hN))).trans h
theorem grown_alc {w u : World} {r : Option Nat} (h : w.grownBy u r) (o : Obj) : w.grownBy (u.alloc o) r := grown_two h (World.grownBy_alloc u o r)
theorem as_fault (g b : Nat) (old : Value) (w : World) (hE : ErrT w) (hb : w.heap[b]? = some (.cells #[old] 86)) :
    Calls Tryz.prog 45 #[.iface 86 (.pointer (some ⟨g, 0, none⟩)), .iface 95 (.pointer (some ⟨b, 0, none⟩))] w fun e w' => e = .returned (.bool true) ∧ w'.heap[b]? = some (.cells #[.pointer (some ⟨g, 0, none⟩)] 86) ∧ w.grownBy w' (some b) := by
  refine (Es.Ef.as_hit ⟨g, 0, none⟩ ⟨b, 0, none⟩ old w hE (by rw [Lib.cell_of_heap hb]; rfl) (Lib.frozen_of_heap hb 0)).mono ?_
  rintro e w' ⟨rfl, rfl⟩
  have hl := (Array.getElem?_eq_some_iff.1 hb).1
  refine ⟨rfl, ?_, grown_two (grown_alc (grown_alc (grown_alc (World.grownBy_alloc w _ _) _) _) _) (grown_set _ b 0 _)⟩
  refine (heap_setCell_same _ b 0 #[old] _ _ ?_).trans rfl
  rw [Lib.alloc_old _ _ _ (by simp; omega), Lib.alloc_old _ _ _ (by simp; omega), Lib.alloc_old _ _ _ (by simp; omega), Lib.alloc_old _ _ _ hl]
  exact hb
theorem as_errno (z : Int) (b : Nat) (old : Value) (w : World) (hE : ErrT w) (hb : w.heap[b]? = some (.cells #[old] 26)) :
    Calls Tryz.prog 45 #[.iface 26 (.int .i64 z), .iface 96 (.pointer (some ⟨b, 0, none⟩))] w fun e w' => e = .returned (.bool true) ∧ w'.heap[b]? = some (.cells #[.int .i64 z] 26) ∧ w.grownBy w' (some b) := by
  refine (Es.En.as_hit z ⟨b, 0, none⟩ old w hE (by rw [Lib.cell_of_heap hb]; rfl) (Lib.frozen_of_heap hb 0)).mono ?_
  rintro e w' ⟨rfl, rfl⟩
  have hl := (Array.getElem?_eq_some_iff.1 hb).1
  refine ⟨rfl, ?_, grown_two (grown_alc (grown_alc (grown_alc (World.grownBy_alloc w _ _) _) _) _) (grown_set _ b 0 _)⟩
  refine (heap_setCell_same _ b 0 #[old] _ _ ?_).trans rfl
  rw [Lib.alloc_old _ _ _ (by simp; omega), Lib.alloc_old _ _ _ (by simp; omega), Lib.alloc_old _ _ _ (by simp; omega), Lib.alloc_old _ _ _ hl]
  exact hb
/-- a place and an error, in a box -/
def fvO (a z : Int) : Obj := .cells #[.int .i64 a, .int .i64 z] 42
set_option maxHeartbeats 2000000 in
theorem seen_nil (w : World) : Calls Tryz.prog 17 #[.nilIface] w fun e w' => e = .returned (.agg #[.int .i64 0, .int .i64 0]) ∧ Below w.heap.size w w' := by
  have hb : Below w.heap.size w (w.alloc (fvO 0 0)) := (Below.refl _ w).alloc (Nat.le_refl _) _
  have ha := heap_alloc_new w (fvO 0 0)
  unfold fvO at hb ha
  go_enter Tryz.func17, Tryz.ntmps17
  go_wp2
  exact bodyPost_ret (v := .agg #[.int .i64 0, .int .i64 0]) (results_cell_row rfl _ _ w.heap.size 42 #[.int .i64 0, .int .i64 0] (0, 0) _ rfl (by first | exact ha | (simp [ha]; done)) Tryz.underlying42 rfl (by kernel_rfl)) rfl ⟨rfl, hb⟩
set_option maxHeartbeats 4000000 in
theorem seen_flt (g : Nat) (a z : Int) (w : World) (hE : ErrT w) (hg : w.heap[g]? = some (fltO a z)) : Calls Tryz.prog 17 #[.iface 86 (.pointer (some ⟨g, 0, none⟩))] w fun e w' => e = .returned (.agg #[.int .i64 a, .int .i64 z]) ∧ Below w.heap.size w w' := by
  have hgl := (Array.getElem?_eq_some_iff.1 hg).1
  have z1 : (w.alloc (fvO 0 0)).heap.size = w.heap.size + 1 := by simp
  have z2 : ((w.alloc (fvO 0 0)).alloc (.cells #[.pointer none] 86)).heap.size = w.heap.size + 1 + 1 := by simp
  have a0 := heap_alloc_new w (fvO 0 0)
  have a1 := heap_alloc_new (w.alloc (fvO 0 0)) (.cells #[.pointer none] 86)
  have a2 := heap_alloc_new ((w.alloc (fvO 0 0)).alloc (.cells #[.pointer none] 86)) (.cells #[.int .i64 0] 26)
  rw [z1] at a1
  rw [z2] at a2
  have hb1 : Below w.heap.size w (w.alloc (fvO 0 0)) := (Below.refl _ w).alloc (Nat.le_refl _) _
  have hb2 := hb1.alloc hb1.size (.cells #[.pointer none] 86)
  have hb3 := hb2.alloc hb2.size (.cells #[.int .i64 0] 26)
  have e1 := (Lib.alloc_old _ (.cells #[.int .i64 0] 26) _ (by rw [z2]; omega)).trans a1
  have e0 := (Lib.alloc_old _ (.cells #[.int .i64 0] 26) _ (by rw [z2]; omega)).trans ((Lib.alloc_old _ (.cells #[.pointer none] 86) _ (by rw [z1]; omega)).trans a0)
  have hg3 := (hb3.block g hgl).trans hg
  have hE3 := hE.low hb3 (Nat.le_refl _)
  have hW : ((w.alloc (.cells #[.int .i64 0, .int .i64 0] 42)).alloc (.cells #[.pointer none] 86)).alloc (.cells #[.int .i64 0] 26) = ((w.alloc (fvO 0 0)).alloc (.cells #[.pointer none] 86)).alloc (.cells #[.int .i64 0] 26) := rfl
  have hEl : 0 < w.heap.size := hE.lt
  clear hb1 hb2 a0 a1 z1 z2 hE hg
  go_enter Tryz.func17, Tryz.ntmps17
  go_wp2_with fail
  clear hW
  generalize ((w.alloc (fvO 0 0)).alloc (.cells #[.pointer none] 86)).alloc (.cells #[.int .i64 0] 26) = W at *
  refine (as_fault g (w.heap.size + 1) (.pointer none) W hE3 e1).mono ?_
  rintro e W1 ⟨rfl, e1', hgr⟩
  have kp : ∀ (k : Nat) (x : Obj), k ≠ w.heap.size + 1 → W.heap[k]? = some x → W1.heap[k]? = some x := fun k x hk hx => (hgr.block k (Array.getElem?_eq_some_iff.1 hx).1 (fun e => hk (Option.some.inj e))).trans hx
  have i0 := kp _ _ (by omega) e0
  have i2 := kp _ _ (by omega) a2
  have ig := kp _ _ (by omega) hg3
  have hb4 := hb3.grown hgr hb3.size (fun k e => by cases e; omega)
  have hE4 : ErrT W1 := (World.cell?_of_block (w := W) (hgr.block _ hE3.lt (fun e => by have h1 : 0 = w.heap.size + 1 := Option.some.inj e; omega))).trans hE3
  have c1 : W1.cell? ⟨w.heap.size + 1, 0, none⟩ = some (.pointer (some ⟨g, 0, none⟩)) := by rw [Lib.cell_of_heap e1']; rfl
  have cg1 : W1.cell? ⟨g, 1, none⟩ = some (.iface 26 (.int .i64 z)) := by unfold fltO at ig; rw [Lib.cell_of_heap ig]; rfl
  clear kp e0 e1 a2 hg3 hb3 hE3 hgr
  go_wp2_with fail
  clear c1 cg1
  refine (as_errno z (w.heap.size + 1 + 1) (.int .i64 0) W1 hE4 i2).mono ?_
  rintro e W2 ⟨rfl, i2', hgr⟩
  have kp : ∀ (k : Nat) (x : Obj), k ≠ w.heap.size + 1 + 1 → W1.heap[k]? = some x → W2.heap[k]? = some x := fun k x hk hx => (hgr.block k (Array.getElem?_eq_some_iff.1 hx).1 (fun e => hk (Option.some.inj e))).trans hx
  have j0 := kp _ _ (by omega) i0
  have j1 := kp _ _ (by omega) e1'
  have jg := kp _ _ (by omega) ig
  have hb5 := hb4.grown hgr hb4.size (fun k e => by cases e; omega)
  have s0 := heap_setCell_same W2 w.heap.size 0 _ _ (.int .i64 a) j0
  have s1 := heap_setCell_same _ w.heap.size 1 _ _ (.int .i64 z) s0
  have hb6 : Below w.heap.size w ((W2.setCell ⟨w.heap.size, 0, none⟩ (.int .i64 a)).setCell ⟨w.heap.size, 1, none⟩ (.int .i64 z)) := (hb5.setCell (Nat.le_refl _) _).setCell (Nat.le_refl _) _
  have c1 : W2.cell? ⟨w.heap.size + 1, 0, none⟩ = some (.pointer (some ⟨g, 0, none⟩)) := by rw [Lib.cell_of_heap j1]; rfl
  have c2 : W2.cell? ⟨w.heap.size + 1 + 1, 0, none⟩ = some (.int .i64 z) := by rw [Lib.cell_of_heap i2']; rfl
  have cg0 : W2.cell? ⟨g, 0, none⟩ = some (.int .i64 a) := by unfold fltO at jg; rw [Lib.cell_of_heap jg]; rfl
  have t0 : W2.cell? ⟨w.heap.size, 0, none⟩ = some (.int .i64 0) := by unfold fvO at j0; rw [Lib.cell_of_heap j0]; rfl
  have t1 : W2.cell? ⟨w.heap.size, 1, none⟩ = some (.int .i64 0) := by unfold fvO at j0; rw [Lib.cell_of_heap j0]; rfl
  have t2 := Lib.frozen_of_heap j0 0
  have t3 := Lib.frozen_of_heap j0 1
  clear kp i0 e1' ig hb4 hE4 i2 i2' hgr j0 j1 jg hb5 s0
  go_wp2_with fail
  go_region
  have s2 : ((W2.setCell ⟨w.heap.size, 0, none⟩ (.int .i64 a)).setCell ⟨w.heap.size, 1, none⟩ (.int .i64 z)).drew.heap[w.heap.size]? = some (.cells #[.int .i64 a, .int .i64 z] 42) := s1
  have hb7 := hb6.drew
  clear s1 hb6 c1 c2 cg0 t0 t1 t2 t3
  generalize ((W2.setCell ⟨w.heap.size, 0, none⟩ (.int .i64 a)).setCell ⟨w.heap.size, 1, none⟩ (.int .i64 z)).drew = W3 at *
  go_wp2
  exact bodyPost_ret (v := .agg #[.int .i64 a, .int .i64 z]) (results_cell_row rfl _ _ w.heap.size 42 #[.int .i64 a, .int .i64 z] (0, 0) _ rfl s2 Tryz.underlying42 rfl (by kernel_rfl)) rfl ⟨rfl, hb7⟩
end Go.Proofs.YtgiojkhmkeocfaaGreatDoor

/- The references' Parse of layer 16 by states (plain), and what both Parses of a layer answer, fault or not. -/
set_option maxRecDepth 20000
namespace Go.Proofs.YtgiojkhmkeocfaaGreatDoor
open Go.RowKit
open Ln

theorem cxT_g (t : List UInt8) (hl : ¬ 1048576 < t.length) : cxT t = gPs hkZ starsT [42, 42, 42, 32] [45, 45, 45, 32] (splitL t) (splitL t).length 0 0 := by
  unfold cxT
  rw [if_neg hl]
  have h := ps_g (splitL t).length 0 (splitL t) 0
  rw [List.drop_zero] at h
  exact h
theorem thenPs_nil (X : Except (Nat × Int) (List Pth)) : thenPs [] X = X := by
  cases X <;> rfl
/-- Read, as Parse's own variables have it -/
theorem rRead_g (t : List UInt8) (w W0 : World) (hW0 : w.alloc (.cells #[.int .i64 0, .int .i64 0] 42) = W0) (hl : t.length ≤ 1048576) :
    Calls Tryz.prog 52 #[.string ⟨t.toArray⟩] W0 fun e w' => ∃ (R : Nat) (lo : Option Addr) (lc : Nat), e = .returned (.pointer (some ⟨R, 0, none⟩)) ∧ Rg w R (splitL t) (.slice lo (splitL t).length lc) (.slice none 0 0) [] (.ok 0) w' := by
  refine (rRead15_f t W0 hl).mono ?_
  rintro e w1 ⟨R, lo, lc, rfl, hR, hown, _, hge, hB⟩
  subst hW0
  have hB0 : Below w.heap.size w (w.alloc (.cells #[.int .i64 0, .int .i64 0] 42)) := (Below.refl _ w).alloc (Nat.le_refl _) _
  have hn := heap_alloc_new w (.cells #[.int .i64 0, .int .i64 0] 42)
  have hlt := (Array.getElem?_eq_some_iff.1 hn).1
  exact ⟨R, lo, lc, rfl, ⟨hB0.trans (hB.mono hB0.size), hnil_row _ _ _ _, fun f hf => by cases hf⟩, (hB.block _ hlt).trans hn, hR, by omega, own_base hown hB0.size⟩
theorem rRead_gl (t : List UInt8) (w W0 : World) (hW0 : w.alloc (.cells #[.int .i64 0, .int .i64 0] 42) = W0) (hl : 1048576 < t.length) :
    Calls Tryz.prog 52 #[.string ⟨t.toArray⟩] W0 fun e w' => ∃ (R : Nat) (lo : Option Addr) (lc : Nat), e = .returned (.pointer (some ⟨R, 0, none⟩)) ∧ Rg w R [] (.slice lo ([] : List (List UInt8)).length lc) (.slice none 0 0) [] (.error (0, 9)) w' := by
  refine (rRead15_long t W0 hl).mono ?_
  rintro e w1 ⟨rfl, hR, hB⟩
  subst hW0
  have hB0 : Below w.heap.size w (w.alloc (.cells #[.int .i64 0, .int .i64 0] 42)) := (Below.refl _ w).alloc (Nat.le_refl _) _
  have hn := heap_alloc_new w (.cells #[.int .i64 0, .int .i64 0] 42)
  have hlt := (Array.getElem?_eq_some_iff.1 hn).1
  exact ⟨_, none, 0, rfl, ⟨hB0.trans (hB.mono hB0.size), hnil_row _ _ _ _, fun f hf => by cases hf⟩, (hB.block _ hlt).trans hn, ⟨⟨0, hR⟩, by decide⟩, hlt, hnil_row _ _ _ _⟩

/-- what is read, and its fault -/
def okP (X : Except (Nat × Int) (List Pth)) : List Pth := match X with
  | .error _ => []
  | .ok l => l
def faP (X : Except (Nat × Int) (List Pth)) : Int × Int := match X with
  | .error (a, z) => ((a : Int), z)
  | .ok _ => (0, 0)
/-- what a layer's Parse answers, fault or not -/
def PuQ (w : World) (X : Except (Nat × Int) (List Pth)) (e : Ending) (w' : World) : Prop := ∃ o c F ev, e = .returned (.tuple #[.slice o F.length c, ev]) ∧ Pw w (.slice o F.length c) F w' ∧ F.map (·.x) = okP X ∧ ∀ u : World, Below w'.heap.size w' u → ErrT u → Calls Tryz.prog 17 #[ev] u fun e u' => e = .returned (.agg #[.int .i64 (faP X).1, .int .i64 (faP X).2]) ∧ Below u.heap.size u u'
theorem prq_u {w : World} {X : Except (Nat × Int) (List Pth)} {e : Ending} {w' : World} (hq : PrQ w X e w') : PuQ w X e w' := by
  cases X with
  | error z =>
    obtain ⟨a, z⟩ := z
    obtain ⟨g, rfl, hg, hb⟩ := hq
    exact ⟨none, 0, [], _, rfl, ⟨hb, hnil_row _ _ _ _, fun x hx => by cases hx⟩, rfl, fun u hu hE => seen_flt g (a : Int) z u hE ((hu.block g (Array.getElem?_eq_some_iff.1 hg).1).trans hg)⟩
  | ok l =>
    obtain ⟨v, F, rfl, hP, hPm⟩ := hq
    obtain ⟨o, c, rfl⟩ := (holds_of hP.own).form
    exact ⟨o, c, F, _, rfl, hP, hPm, fun u _ _ => seen_nil u⟩
/-- what the reference's Parse answers, fault or not -/
def RuQ (w : World) (X : Except (Nat × Int) (List Pth)) (e : Ending) (w' : World) : Prop := ∃ o c F, e = .returned (.tuple #[.slice o F.length c, .agg #[.int .i64 (faP X).1, .int .i64 (faP X).2]]) ∧ Pw w (.slice o F.length c) F w' ∧ F.map (·.x) = okP X
theorem rfq_u {w : World} {X : Except (Nat × Int) (List Pth)} {e : Ending} {w' : World} (hq : RfQ6 w X e w') : RuQ w X e w' := by
  cases X with
  | error z =>
    obtain ⟨a, z⟩ := z
    obtain ⟨rfl, _, hb⟩ := hq
    exact ⟨none, 0, [], rfl, ⟨hb, hnil_row _ _ _ _, fun x hx => by cases hx⟩, rfl⟩
  | ok l =>
    obtain ⟨v, F, rfl, hP, hPm⟩ := hq
    obtain ⟨o, c, rfl⟩ := (holds_of hP.own).form
    exact ⟨o, c, F, rfl, hP, hPm⟩
end Go.Proofs.YtgiojkhmkeocfaaGreatDoor

/- The reference's Parse of layer 15: its contract. -/
set_option maxRecDepth 20000
namespace Go.Proofs.YtgiojkhmkeocfaaGreatDoor
open Go.RowKit
open Ln

theorem rParse15_f (t : List UInt8) (w : World) (X : Except (Nat × Int) (List Pth)) (HX : Hid (cxT t = X)) :
    Calls Tryz.prog 21 #[.string ⟨t.toArray⟩] w fun e w' => RfQ6 w X e w' := by
  have hX := HX.out
  by_cases hlong : 1048576 < t.length
  · have hXe : X = .error (0, 9) := (by rw [← hX]; unfold cxT; rw [if_pos hlong])
    subst hXe
    exact rParse15S (L := []) t w _ rfl (fun s hs => by cases hs) (by simp) (fun s hs => by cases hs) (.error (0, 9)) 0 _ rfl (rRead_gl t w _ rfl hlong)
  · have hb := split_shortC (t := t) (M := 1048576) (by omega)
    have hn := split_len t
    refine rParse15S (L := splitL t) t w _ rfl (split_plain t) (by omega) (fun s hs => by have := hb s hs; omega) (.ok 0) (splitL t).length X ?_ (rRead_g t w _ rfl (by omega))
    refine ⟨?_, Nat.zero_le _, by omega, Nat.le_refl _⟩
    show thenPs [] (gPs hkZ starsT [42, 42, 42, 32] [45, 45, 45, 32] (splitL t) (splitL t).length 0 0) = X
    rw [thenPs_nil, ← hX, cxT_g t hlong]
end Go.Proofs.YtgiojkhmkeocfaaGreatDoor

/- What works() of redlinelaw15 prints and reads; plain. -/
set_option maxRecDepth 20000
namespace Go.Proofs.YtgiojkhmkeocfaaGreatDoor
open Ln

end Go.Proofs.YtgiojkhmkeocfaaGreatDoor

/- How large what is read of a text in the context form is; plain mathematics. -/
set_option maxRecDepth 20000
namespace Go.Proofs.YtgiojkhmkeocfaaGreatDoor
open Ln

/-- the bytes of lines, and one a line -/
def szL : List (List UInt8) → Nat
  | [] => 0
  | s :: r => s.length + 1 + szL r
theorem szl_tail (l : List (List UInt8)) : szL l.tail ≤ szL l := by
  cases l with
  | nil => exact Nat.le_refl _
  | cons s r => simp only [List.tail_cons, szL]; omega
theorem szl_len (l : List (List UInt8)) : szL l = l.flatten.length + l.length := by
  induction l with
  | nil => rfl
  | cons s r ih =>
    simp only [szL, List.flatten_cons, List.length_append, List.length_cons, ih]
    omega
def szS (x : Sde) : Nat := szL (x.map (·.2))
theorem szs_cons (y : UInt8 × List UInt8) (x : Sde) : szS (y :: x) = y.2.length + 1 + szS x := rfl
theorem szs_kept (x : Sde) : szS (keptS x) ≤ szS x := by
  induction x with
  | nil => exact Nat.le_refl _
  | cons y x ih =>
    unfold keptS at ih ⊢
    rw [List.filter_cons]
    split
    · rw [szs_cons, szs_cons]
      omega
    · rw [szs_cons]
      omega
theorem rd_sz {sg : UInt8} (ls : List (List UInt8)) : ∀ {p p1 : Nat} {r : List (List UInt8)} {x : Sde}, rdS sg p ls = .ok (x, p1, r) → szS x + szL r ≤ szL ls := by
  induction ls with
  | nil =>
    intro p p1 r x h
    simp only [rdS] at h
    cases h
    exact Nat.le_refl _
  | cons s ls ih =>
    intro p p1 r x h
    simp only [rdS] at h
    split at h
    · split at h
      · split at h
        · cases h
          have := szl_tail ls
          rw [szs_cons]
          simp only [szL, szS, List.map_nil, List.length_dropLast, List.length_drop]
          omega
        · split at h
          · cases h
          · rename_i hr
            have := ih hr
            cases h
            rw [szs_cons]
            simp only [szL, List.length_drop]
            omega
      · cases h
    · cases h
      show 0 + _ ≤ _
      omega
theorem nxt_sz {p : Nat} {ls r : List (List UInt8)} {s : List UInt8} (h : nxt p ls = .ok (s, r)) : szL r + 1 ≤ szL ls := by
  cases ls with
  | nil => cases h
  | cons t l =>
    simp only [nxt] at h
    split at h
    · cases h
      simp only [szL]
      omega
    · cases h
theorem rng_sz {e : UInt8} {p : Nat} {ls r : List (List UInt8)} {q : Int × Int} (h : rngP e p ls = .ok (q, r)) : szL r + 1 ≤ szL ls := by
  unfold rngP at h
  split at h
  · cases h
  · rename_i hn
    split at h
    · cases h
    · split at h
      · cases h
      · cases h
        exact nxt_sz hn
theorem mk_sz {l : List Mk} (h : ∀ m ∈ l, okS m.sg = true) : l.length + txS l ≤ szL (pkL 43 l) + szL (pkL 45 l) := by
  induction l with
  | nil => exact Nat.le_refl _
  | cons m l ih =>
    have h1 := ih fun x hx => h x (by simp [hx])
    have h2 := h m (by simp)
    simp only [pkL, txS, List.length_cons]
    by_cases h3 : m.sg = 43
    · rw [if_neg (by simp [h3]), if_pos ⟨by rw [h3]; decide, h2⟩]
      simp only [szL]
      omega
    · rw [if_pos ⟨h3, h2⟩]
      split
      · simp only [szL]
        omega
      · simp only [szL]
        omega
theorem fin_sz {a0 a1 a2 : Nat} {po no pw nw : Int} {o w : Sde} {h : Hk} (hf : finH a0 a1 a2 po no pw nw o w = .ok h) : h.ls.length + txS h.ls ≤ 2 * (szS o + szS w) := by
  unfold finH at hf
  split at hf
  · cases hf
  split at hf
  · cases hf
  split at hf
  · cases hf
  split at hf
  · cases hf
  split at hf
  · cases hf
  split at hf
  · cases hf
  · rename_i l hj
    cases hf
    obtain ⟨_, b, c, d, _⟩ := jn_ok _ hj
    have := mk_sz b
    rw [c, d] at this
    have e1 : szL ((oldF o w).map (·.2)) ≤ szS o + szS w := by
      show szS (oldF o w) ≤ _
      unfold oldF
      split
      · have := szs_kept w
        omega
      · omega
    have e2 : szL ((newF o w).map (·.2)) ≤ szS o + szS w := by
      show szS (newF o w) ≤ _
      unfold newF
      split
      · have := szs_kept o
        omega
      · omega
    dsimp only
    omega
theorem cxh_sz {k p p1 : Nat} {ls r : List (List UInt8)} {h : Hk} (hh : cxH k p ls = .ok (h, p1, r)) : h.ls.length + txS h.ls + 2 * szL r + 6 ≤ 2 * szL ls := by
  unfold cxH at hh
  split at hh
  · cases hh
  · rename_i s r0 hn
    have a1 := nxt_sz hn
    split at hh
    · split at hh
      · cases hh
      · split at hh
        · cases hh
        · rename_i po no r1 h1
          have b1 := rng_sz h1
          split at hh
          · cases hh
          · rename_i o p2 r2 h2
            have c1 := rd_sz _ h2
            split at hh
            · cases hh
            · rename_i pw nw r3 h3
              have d1 := rng_sz h3
              split at hh
              · cases hh
              · rename_i w p4 r4 h4
                have e1 := rd_sz _ h4
                split at hh
                · cases hh
                · rename_i h5 hf
                  cases hh
                  have := fin_sz hf
                  omega
    · cases hh
theorem cxhs_sz (f : Nat) : ∀ {k p p1 : Nat} {ls r : List (List UInt8)} {hs : List Hk}, cxHs f k p ls = .ok (hs, p1, r) → hsS hs + 208 * szL r ≤ 208 * szL ls := by
  induction f with
  | zero => intro k p p1 ls r hs h; cases h
  | succ f ih =>
    intro k p p1 ls r hs h
    simp only [cxHs] at h
    split at h
    · cases h
    · rename_i h0 q1 r1 h1
      have a := cxh_sz h1
      split at h
      · split at h
        · cases h
        · rename_i l q2 r2 h2
          have b := ih h2
          cases h
          simp only [hsS]
          omega
      · cases h
        simp only [hsS]
        omega
/-- the size of patches -/
def ptM : List Pth → Nat
  | [] => 0
  | p :: L => 416 + hsS p.hs + ptM L
theorem nam_sz {ah n : List UInt8} {p : Nat} {ls r : List (List UInt8)} (h : namP ah p ls = .ok (n, r)) : szL r + 1 ≤ szL ls := by
  unfold namP at h
  split at h
  · cases h
  · rename_i s r0 hn
    have := nxt_sz hn
    split at h
    · split at h
      · cases h
      · cases h
        exact this
    · cases h
theorem cxps_sz (f : Nat) : ∀ {k p : Nat} {ls : List (List UInt8)} {L : List Pth}, cxPs f k p ls = .ok L → ptM L ≤ 208 * szL ls := by
  induction f with
  | zero =>
    intro k p ls L h
    simp only [cxPs] at h
    cases h
    exact Nat.zero_le _
  | succ f ih =>
    intro k p ls L h
    simp only [cxPs] at h
    split at h
    · cases h
      exact Nat.zero_le _
    · split at h
      · cases h
      · rename_i n1 r1 h1
        have a1 := nam_sz h1
        split at h
        · cases h
        · split at h
          · cases h
          · rename_i n2 r2 h2
            have b1 := nam_sz h2
            split at h
            · cases h
            · rename_i hs p3 r3 h3
              have c1 := cxhs_sz _ h3
              split at h
              · cases h
              · rename_i l h4
                have d1 := ih h4
                cases h
                simp only [ptM]
                omega
theorem cx_size {t : List UInt8} {L : List Pth} (h : cxT t = .ok L) : ptM L ≤ 436207616 := by
  unfold cxT at h
  split at h
  · cases h
  · rename_i hl
    have := cxps_sz _ h
    rw [szl_len, split_join] at this
    have h2 := split_len t
    omega
theorem ptM_mem {L : List Pth} {p : Pth} (h : p ∈ L) : 416 + hsS p.hs ≤ ptM L := by
  induction L with
  | nil => cases h
  | cons q L ih =>
    simp only [ptM]
    rcases List.mem_cons.1 h with rfl | h
    · omega
    · have := ih h
      omega
theorem hsS_mem {l : List Hk} {x : Hk} (h : x ∈ l) : x.ls.length + txS x.ls ≤ hsS l := by
  induction l with
  | nil => cases h
  | cons q l ih =>
    simp only [hsS]
    rcases List.mem_cons.1 h with rfl | h
    · omega
    · have := ih h
      omega
theorem hsS_len (l : List Hk) : l.length ≤ hsS l := by
  induction l with
  | nil => exact Nat.le_refl _
  | cons q l ih =>
    simp only [hsS, List.length_cons]
    omega
theorem txS_mem {l : List Mk} {m : Mk} (h : m ∈ l) : m.tx.length ≤ txS l := by
  induction l with
  | nil => cases h
  | cons q l ih =>
    simp only [txS]
    rcases List.mem_cons.1 h with rfl | h
    · omega
    · have := ih h
      omega
theorem hok_size {p : List (Hk × Value)} (h : hsS (p.map (·.1)) ≤ 436207616) : HOk p := by
  refine ⟨?_, fun x hx => ?_⟩
  · have := hsS_len (p.map (·.1))
    rw [List.length_map] at this
    omega
  · have := hsS_mem (List.mem_map_of_mem (f := (·.1)) hx)
    refine ⟨by omega, fun m hm => ?_⟩
    have := txS_mem hm
    omega
end Go.Proofs.YtgiojkhmkeocfaaGreatDoor

/- The laws' own works of layer 15, walked. -/
set_option maxRecDepth 20000
namespace Go.Proofs.YtgiojkhmkeocfaaGreatDoor
open Go.RowKit

end Go.Proofs.YtgiojkhmkeocfaaGreatDoor

/- The walk of the law CtxfmtAgain. -/
set_option maxRecDepth 20000
namespace Go.Proofs.YtgiojkhmkeocfaaGreatDoor
open Go.RowKit

end Go.Proofs.YtgiojkhmkeocfaaGreatDoor

/- How long a text in the unified form is, and how large what is read of one is; plain mathematics. -/
set_option maxRecDepth 20000
namespace Go.Proofs.YtgiojkhmkeocfaaGreatDoor
open Ln

end Go.Proofs.YtgiojkhmkeocfaaGreatDoor

/- What is read by layers 15 and 16 are right hunks, and not too large. -/
set_option maxRecDepth 20000
namespace Go.Proofs.YtgiojkhmkeocfaaGreatDoor
open Go.RowKit

theorem facts_of {L : List Pth} {F : List Pfd} (hF : F.map (·.x) = L) (hi : ∀ f ∈ F, f.hs.map (·.1) = f.x.hs) (h1 : ∀ q ∈ L, q.hs ≠ [] ∧ ∀ h ∈ q.hs, chkH h = 0) (h2 : L.length ≤ 64) (h3 : ptM L ≤ 436207616) : F.length ≤ 64 ∧ ∀ f ∈ F, f.hs.length ≠ 0 ∧ (∀ y ∈ f.hs, chkH y.1 = 0) ∧ HOk f.hs := by
  refine ⟨by rw [← hF, List.length_map] at h2; exact h2, fun f hf => ?_⟩
  have hm : f.x ∈ L := by rw [← hF]; exact List.mem_map_of_mem hf
  obtain ⟨h4, h5⟩ := h1 _ hm
  have h6 := hi f hf
  refine ⟨fun e => h4 ?_, fun y hy => h5 _ ?_, hok_size ?_⟩
  · rw [← h6, List.eq_nil_of_length_eq_zero e]
    rfl
  · rw [← h6]
    exact List.mem_map_of_mem hy
  · have h7 := ptM_mem hm
    rw [h6]
    omega
theorem facts_nil {F : List Pfd} (hF : F.map (·.x) = []) : F.length ≤ 64 ∧ ∀ f ∈ F, f.hs.length ≠ 0 ∧ (∀ y ∈ f.hs, chkH y.1 = 0) ∧ HOk f.hs := by
  have : F = [] := by simpa using hF
  subst this
  exact ⟨by simp, fun f hf => by cases hf⟩
theorem cx_facts {t : List UInt8} {X : Except (Nat × Int) (List Pth)} (h : cxT t = X) {F : List Pfd} (hF : F.map (·.x) = okP X) (hi : ∀ f ∈ F, f.hs.map (·.1) = f.x.hs) : F.length ≤ 64 ∧ ∀ f ∈ F, f.hs.length ≠ 0 ∧ (∀ y ∈ f.hs, chkH y.1 = 0) ∧ HOk f.hs := by
  cases X with
  | error e => exact facts_nil hF
  | ok L => exact facts_of hF hi (fun q hq => ⟨((cx_right h).1 q hq).ne, fun x hx => (((cx_right h).1 q hq).gd x hx).chk⟩) (cx_right h).2 (cx_size h)
end Go.Proofs.YtgiojkhmkeocfaaGreatDoor
