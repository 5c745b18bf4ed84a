/-
  Texts that belong together, joined: PaRq, PaRt, PaRf, PaLg, EdOpen, PaPl, PaUn, PaFd, PaLs, PaTr, MiRk, PcLe, PaPi, PaOp, PaDf, PaHm, HiMath, HiRuns, HiPc, SpPc, MiRd, HiMp, HiGr, HiCm, HiOd, HiBm, HiBs, HiFd, HiRt, HiRr, HiRb, HiPi, HiDf, SpCd, SpFd, SpGr, SpRg, SpDf.
-/
import Derived.Test.YtgiojkhmkeocfaaGreatDoorNomalA7
import Derived.Test.YtgiojkhmkeocfaaGreatDoorRows
import Derived.Test.YtgiojkhmkeocfaaGreatDoorChecked
import Derived.Test.YtgiojkhmkeocfaaGreatDoorNomalA3
import Derived.ProofKit
import Derived.OpenShut
import Derived.ShutString
import Derived.ChangeOld
import Derived.Below
import Derived.SliceStrings
import Derived.ChangeSlices
import Derived.Deep.Slices
import Derived.Deep.SlicePairs
import Derived.JoinedCond
import Derived.Maps.OwnSet
import Derived.Carry
import Derived.Test.YtgiojkhmkeocfaaGreatDoorNomalA4
import Derived.Laws.Rows
import Derived.Deep.CutRange
import Derived.Laws.EntriesVeiled
import Derived.Maps.OwnRows
import Derived.Maps.GroupsBeside
import Derived.WalkMore
import Derived.Test.YtgiojkhmkeocfaaGreatDoorNomalA6

/- What stands in memory while the lengths of rising rows are found; what a step of a round keeps. -/
set_option maxRecDepth 20000
namespace Go.Proofs.YtgiojkhmkeocfaaGreatDoor
open Go.RowKit Go.Shelf
attribute [local go_sem] Oper.semAt_some

/-- the lengths, as they are written from the end on: the latest first -/
def lz (n : Nat) : List (Nat × Pr) → List Int
  | [] => List.replicate n 0
  | x :: r => (lz n r).set x.1 ((mxl x.2 (r.map (·.2)) (rl (r.map (·.2))) + 1 : Nat) : Int)
/-- the state behind a round -/
structure Rs (w : World) (n : Nat) (r : List (Nat × Pr)) (va : Value) (vals : List Value) (H : List (List Pr)) (W : World) : Prop where
  low : Below w.heap.size w W
  lbox : Boxed W (w.heap.size + 1) 71 (.slice (some ⟨w.heap.size, 0, none⟩) n n)
  lrow : W.ownsRow w.heap.size 3 1 (.slice (some ⟨w.heap.size, 0, none⟩) n n) n (icells (lz n r))
  abox : Boxed W (w.heap.size + 1 + 1) 306 va
  al : Al W w.heap.size va vals H
  hd : Hds (r.map (·.2)) H
  hl : H.length ≤ r.length
  hh : ∀ h ∈ H, h.length ≤ r.length
theorem owns_kept_cells {W W' : World} {row : Option Nat} {base n : Nat} {e : TypeId} {s : Nat} {v : Value} {xs : List Value} (ho : W.ownsRow base e s v n xs) (hg : W.grownBy W' row) (hr : ∀ r, row = some r → ∃ o : Obj, W.heap[r]? = some o ∧ o.isCells = false) : W'.ownsRow base e s v n xs := by
  refine ho.kept hg ?_
  cases h : v.ownBlock with
  | none => exact .inl rfl
  | some g =>
    right
    intro q
    obtain ⟨cur, h1, _⟩ := owns_cells ho h
    obtain ⟨o, h2, h3⟩ := hr g q.symm
    rw [h1] at h2
    cases h2
    cases h3
theorem boxed_kept_cells {W W' : World} {row : Option Nat} {B : Nat} {t : TypeId} {v : Value} (h : Boxed W B t v) (hg : W.grownBy W' row) (hr : ∀ r, row = some r → ∃ o : Obj, W.heap[r]? = some o ∧ o.isCells = false) : Boxed W' B t v := by
  refine h.kept hg (fun q => ?_)
  obtain ⟨o, h2, h3⟩ := hr B q.symm
  unfold Boxed at h
  rw [h] at h2
  cases h2
  cases h3
theorem Rs.own {w : World} {n : Nat} {r : List (Nat × Pr)} {va : Value} {vals : List Value} {H : List (List Pr)} {W W' : World} (h : Rs w n r va vals H W) {row : Option Nat} (hg : W.grownBy W' row) (hr : ∀ r, row = some r → w.heap.size ≤ r ∧ ∃ o : Obj, W.heap[r]? = some o ∧ o.isCells = false) : Rs w n r va vals H W' :=
  ⟨h.low.grown hg h.low.size (fun j hj => (hr j hj).1), boxed_kept_cells h.lbox hg (fun r e => (hr r e).2), owns_kept_cells h.lrow hg (fun r e => (hr r e).2), boxed_kept_cells h.abox hg (fun r e => (hr r e).2),
    ⟨owns_kept_cells h.al.row hg (fun r e => (hr r e).2), h.al.len, fun m v k h1 h2 => owns_kept_cells (h.al.own m v k h1 h2) hg (fun r e => (hr r e).2), h.al.apart⟩, h.hd, h.hl, h.hh⟩
theorem Rs.keep {w : World} {n : Nat} {r : List (Nat × Pr)} {va : Value} {vals : List Value} {H : List (List Pr)} {W W' : World} (h : Rs w n r va vals H W) (hb : Low W W') : Rs w n r va vals H W' :=
  h.own (low_grown hb none) (fun r e => by cases e)

/-- whatever is written lies in a block of this kind -/
def Ty (W : World) (row : Option Nat) (e : TypeId) : Prop := ∀ g, row = some g → ∃ cur, W.heap[g]? = some (.cells cur e (0, 0))
theorem ty_row {W : World} {base n : Nat} {e : TypeId} {s : Nat} {v : Value} {xs : List Value} (ho : W.ownsRow base e s v n xs) : Ty W v.ownBlock e := fun g hg => by
  obtain ⟨cur, h, _⟩ := owns_cells ho hg
  exact ⟨cur, h⟩
section
variable {W W' : World} {row : Option Nat} {e : TypeId}
theorem bx_ty {B : Nat} {t : TypeId} {v : Value} (h : Boxed W B t v) (hg : W.grownBy W' row) (hy : Ty W row e) (hne : t ≠ e) : Boxed W' B t v := by
  refine h.kept hg (fun q => ?_)
  obtain ⟨cur, h2⟩ := hy B q.symm
  unfold Boxed at h
  rw [h] at h2
  cases h2
  exact hne rfl
theorem ow_ty {base n : Nat} {t : TypeId} {s : Nat} {v : Value} {xs : List Value} (h : W.ownsRow base t s v n xs) (hg : W.grownBy W' row) (hy : Ty W row e) (hne : t ≠ e) : W'.ownsRow base t s v n xs := by
  refine h.kept hg ?_
  cases hb : v.ownBlock with
  | none => exact .inl rfl
  | some g =>
    right
    intro q
    obtain ⟨cur, h1, _⟩ := owns_cells h hb
    obtain ⟨cur', h2⟩ := hy g q.symm
    rw [h1] at h2
    cases h2
    exact hne rfl
theorem al_ty {base : Nat} {va : Value} {vals : List Value} {H : List (List Pr)} (h : Al W base va vals H) (hg : W.grownBy W' row) (hy : Ty W row e) (h1 : 311 ≠ e) (h2 : 249 ≠ e) : Al W' base va vals H :=
  ⟨ow_ty h.row hg hy h1, h.len, fun n v k a b => ow_ty (h.own n v k a b) hg hy h2, h.apart⟩
theorem ko_ty (hg : W.grownBy W' row) (hy : Ty W row e) : KeepsOthers W W' := KeepsOthers.of_grownBy hg (fun j o ej hj => by
  obtain ⟨cur, h⟩ := hy j ej
  rw [h] at hj
  cases hj
  rfl)
theorem kq_ty {n₀ lo : Nat} {v : Value} (hb : Boxed W lo 245 v) (hn : n₀ ≤ W.heap.size) (hg : W.grownBy W' row) (hy : Ty W row e) (hne : 245 ≠ e) (hge : ∀ g, row = some g → n₀ ≤ g) : Kq n₀ lo W W' :=
  ⟨(Below.refl n₀ W).grown hg hn (fun j ej => hge j ej), (bx_ty hb hg hy hne).trans hb.symm⟩
end
theorem ko_low {W W' : World} (h : Low W W') : KeepsOthers W W' := ⟨Below.size h, fun k _ hk _ => (Below.block h k (Array.getElem?_eq_some_iff.1 hk).1).trans hk⟩
theorem kq_low {n₀ lo : Nat} {W W' : World} (hn : n₀ ≤ W.heap.size) (hl : lo < W.heap.size) (h : Low W W') : Kq n₀ lo W W' := ⟨Below.mono h hn, Below.block h lo hl⟩
/-- the state within a round -/
structure Rp (w : World) (n : Nat) (Z : List Int) (va : Value) (vals : List Value) (H : List (List Pr)) (vl : Value) (W : World) : Prop where
  low : Below w.heap.size w W
  lbox : Boxed W (w.heap.size + 1) 71 (.slice (some ⟨w.heap.size, 0, none⟩) n n)
  lrow : W.ownsRow w.heap.size 3 1 (.slice (some ⟨w.heap.size, 0, none⟩) n n) n (icells Z)
  abox : Boxed W (w.heap.size + 1 + 1) 306 va
  al : Al W w.heap.size va vals H
  ibox : Boxed W (w.heap.size + 1 + 1 + 1) 245 vl
/-- what a step of a round keeps -/
structure Stp (w W W' : World) : Prop where
  ko : KeepsOthers W W'
  kq : Kq w.heap.size (w.heap.size + 1 + 1 + 1) W W'
theorem Stp.trans {w A B C : World} (h : Stp w A B) (k : Stp w B C) : Stp w A C := ⟨h.ko.trans k.ko, h.kq.trans k.kq⟩
section
variable {w : World} {n : Nat} {Z : List Int} {va : Value} {vals : List Value} {H : List (List Pr)} {vl : Value} {W W' : World}
theorem Rp.lo (h : Rp w n Z va vals H vl W) (hb : Low W W') : Rp w n Z va vals H vl W' ∧ Stp w W W' := by
  have hg := low_grown hb none
  have hy : ∀ e, Ty W none e := fun e g q => by cases q
  have h3 := h.ibox.lt
  exact ⟨⟨h.low.trans (Below.mono hb h.low.size), bx_ty h.lbox hg (hy 0) (by decide), ow_ty h.lrow hg (hy 0) (by decide), bx_ty h.abox hg (hy 0) (by decide), al_ty h.al hg (hy 0) (by decide) (by decide), bx_ty h.ibox hg (hy 0) (by decide)⟩, ko_low hb, kq_low h.low.size h3 hb⟩
/-- one list of heads is put in its place -/
theorem Rp.put {g k c m : Nat} {v1 v' : Value} {L : List Pr} {W4 : World} (h : Rp w n Z (.slice (some ⟨g, 0, none⟩) k c) vals H vl W) (hO : W.ownsRow w.heap.size 249 2 v1 (H[m]?.getD []).length (prcells (H[m]?.getD []))) (hv : vals[m]? = some v1) (hG : Grows w.heap.size W v1 v' L W4) :
    Rp w n Z (.slice (some ⟨g, 0, none⟩) k c) (vals.set m v') (H.set m L) vl (W4.setCell ⟨g, m, none⟩ v') ∧ Stp w W (W4.setCell ⟨g, m, none⟩ v') := by
  obtain ⟨g1, g2, g3⟩ := hG
  have y1 : Ty W v1.ownBlock 249 := ty_row hO
  have r4 := ow_ty h.al.row g2 y1 (by decide)
  have y2 : Ty W4 (some g) 311 := ty_row (v := .slice (some ⟨g, 0, none⟩) k c) r4
  have g5 : W4.grownBy (W4.setCell ⟨g, m, none⟩ v') (some g) := by
    rcases r4.2 with ⟨q, _⟩ | ⟨g', cap, cur, q, _⟩
    · cases q
    · cases q
      exact (r4.stored m v').2
  have i4 := bx_ty h.ibox g2 y1 (by decide)
  have hb1 : ∀ q, v1.ownBlock = some q → w.heap.size ≤ q := fun q hq => (owns_cells hO hq).choose_spec.2
  have hb2 : ∀ q, some g = some q → w.heap.size ≤ q := fun q hq => (owns_cells r4 (by rw [← hq]; rfl)).choose_spec.2
  have s4 := h.low.size
  have k1 := kq_ty h.ibox s4 g2 y1 (by decide) hb1
  have s5 : w.heap.size ≤ W4.heap.size := Nat.le_trans s4 g2.size
  have k2 := kq_ty i4 s5 g5 y2 (by decide) hb2
  refine ⟨⟨h.low.trans (k1.trans k2).low, bx_ty (bx_ty h.lbox g2 y1 (by decide)) g5 y2 (by decide), ow_ty (ow_ty h.lrow g2 y1 (by decide)) g5 y2 (by decide), bx_ty (bx_ty h.abox g2 y1 (by decide)) g5 y2 (by decide), h.al.set hv ⟨g1, g2, g3⟩, bx_ty i4 g5 y2 (by decide)⟩, (ko_ty g2 y1).trans (ko_ty g5 y2), k1.trans k2⟩
/-- one more list of heads, in its variable -/
theorem Rp.more {va' : Value} {w1 : World} (h : Rp w n Z va vals H vl W) (hO : w1.ownsRow w.heap.size 311 1 va' (vals.length + 1) (vals ++ [.slice none 0 0])) (hg : W.grownBy w1 va.ownBlock) :
    Rp w n Z va' (vals ++ [.slice none 0 0]) (H ++ [[]]) vl (w1.setCell ⟨w.heap.size + 1 + 1, 0, none⟩ va') ∧ Stp w W (w1.setCell ⟨w.heap.size + 1 + 1, 0, none⟩ va') := by
  have y1 : Ty W va.ownBlock 311 := ty_row h.al.row
  have a1 := bx_ty h.abox hg y1 (by decide)
  have y2 : Ty w1 (some (w.heap.size + 1 + 1)) 306 := fun q hq => by cases hq; exact ⟨_, a1⟩
  have g2 := grownBy_setCell' w1 (w.heap.size + 1 + 1) va'
  have i1 := bx_ty h.ibox hg y1 (by decide)
  have s1 := h.low.size
  have k1 := kq_ty h.ibox s1 hg y1 (by decide) (fun q hq => (owns_cells h.al.row hq).choose_spec.2)
  have k2 := kq_ty i1 (Nat.le_trans s1 hg.size) g2 y2 (by decide) (fun q hq => by cases hq; omega)
  exact ⟨⟨h.low.trans (k1.trans k2).low, bx_ty (bx_ty h.lbox hg y1 (by decide)) g2 y2 (by decide), ow_ty (ow_ty h.lrow hg y1 (by decide)) g2 y2 (by decide), a1.set va', al_ty (h.al.more hO hg) g2 y2 (by decide) (by decide), bx_ty i1 g2 y2 (by decide)⟩, (ko_ty hg y1).trans (ko_ty g2 y2), k1.trans k2⟩
end

end Go.Proofs.YtgiojkhmkeocfaaGreatDoor

/- A pair is put among the heads of its length: the region that draws its order, in a round. -/
set_option maxRecDepth 20000
namespace Go.Proofs.YtgiojkhmkeocfaaGreatDoor
open Go.RowKit Go.Shelf
attribute [local go_sem] Oper.semAt_some

end Go.Proofs.YtgiojkhmkeocfaaGreatDoor

/- How long the longest rising row is that begins with each member: risingFrom, walked. -/
set_option maxRecDepth 20000
namespace Go.Proofs.YtgiojkhmkeocfaaGreatDoor
open Go.RowKit Go.Shelf
attribute [local go_sem] Oper.semAt_some

end Go.Proofs.YtgiojkhmkeocfaaGreatDoor

/- The longest rising row: Longest of the code, walked. -/
set_option maxRecDepth 20000
namespace Go.Proofs.YtgiojkhmkeocfaaGreatDoor
open Go.RowKit
attribute [local simp] low_drew low_alloc

end Go.Proofs.YtgiojkhmkeocfaaGreatDoor

/- What an argument of type []int, []api.Change holds, and how much of it there is by the statement's own count. -/
set_option maxRecDepth 20000
namespace Go.Proofs.YtgiojkhmkeocfaaGreatDoor
open Go.ChangeShapes Go.WideShapes Go.ChangeAt Go.RowKit

theorem own : ownKnob Tryz.prog.godebug = none := by kernel_rfl
theorem laidOut : laidOutB Tryz.prog = true := by kernel_rfl
theorem cellsInt : Tryz.prog.cellsOf 3 = 1 := by kernel_rfl
theorem cellsCh : Tryz.prog.cellsOf 64 = 4 := by kernel_rfl

/-- numbers that an int holds -/
def w64 (z : Int) : Prop := -9223372036854775808 ≤ z ∧ z ≤ 9223372036854775807
theorem w64_of {z : Int} (h : (Lit.int .i64 z).wf = true) : w64 z := bounds_i64 h
/-- a change of numbers that an int holds -/
def wCh (c : Ch) : Prop := w64 c.A ∧ w64 c.AN ∧ w64 c.B ∧ w64 c.BN

theorem lits_len {H : Type} (l : List Int) : l.length ≤ Rows.uptoBulkAll (lits (H := H) .i64 l) := by
  induction l with
  | nil => simp [lits, Rows.uptoBulkAll]
  | cons s t ih =>
    have e : lits (H := H) .i64 (s :: t) = .lit (.int .i64 s) :: lits .i64 t := rfl
    rw [e]
    simp only [Rows.uptoBulkAll, Rows.uptoBulk, List.length_cons]
    omega

/-- the numbers that an argument holds -/
theorem open_nums {H : Type} {enc : TypeId × Value → H} {W : World} {fuel : Nat} {ao : Option Addr} {len cap : Nat} {d : DataW H} {p : List MemPlace}
    (h : DataW.trod enc Tryz.prog W 0 (fun _ => true) true fuel 71 [.slice ao len cap] = some (d, p)) :
    ∃ zs : List Int, HI W (.slice ao len cap) zs ∧ zs.length ≤ Rows.uptoBulk d ∧ ∀ z ∈ zs, w64 z := by
  rcases open_ints Tryz.underlying71 Tryz.underlying3 cellsInt h with ⟨hcs, hx⟩ | ⟨a, l, c, zs, hcs, _, hl, hm, hz, hx, hcell, hwf⟩
  · simp at hcs
    obtain ⟨rfl, rfl, rfl⟩ := hcs
    exact ⟨[], .inl ⟨rfl, rfl, rfl⟩, by simp, by simp⟩
  · simp at hcs
    obtain ⟨rfl, rfl, rfl⟩ := hcs
    simp at hz
    simp only [Prod.mk.injEq] at hx
    obtain ⟨rfl, _⟩ := hx
    have hlen : (zs.take len).length = len := by simp; omega
    refine ⟨zs.take len, .inr ⟨a, cap, by rw [hlen], by omega, fun j u hj => ?_⟩, ?_, fun z hz => w64_of (hwf z (List.mem_of_mem_take hz))⟩
    · have hj' : j < len := by
        have := (List.getElem?_eq_some_iff.1 hj).1
        rw [icells_length, hlen] at this
        exact this
      rw [hcell j (by omega)]
      have hjs : j < zs.length := by omega
      simp [icells, hj', hjs] at hj
      simp [List.getD, hjs, ← hj]
    · have := lits_len (H := H) (zs.take len)
      rw [Rows.uptoBulk]
      omega

theorem bulk_range {H : Type} (D : Nat → DataW H) (n : Nat) (h : ∀ i, i < n → 1 ≤ Rows.uptoBulk (D i)) : n ≤ Rows.uptoBulkAll ((List.range n).map D) := by
  have hall : ∀ l : List (DataW H), (∀ d ∈ l, 1 ≤ Rows.uptoBulk d) → l.length ≤ Rows.uptoBulkAll l := by
    intro l
    induction l with
    | nil => simp
    | cons d t ih =>
      intro hd
      have h1 := hd d (List.mem_cons_self ..)
      have h2 := ih fun x hx => hd x (List.mem_cons_of_mem _ hx)
      rw [Rows.uptoBulkAll]
      simp only [List.length_cons]
      omega
  have := hall ((List.range n).map D) (by
    intro d hd
    simp only [List.mem_map, List.mem_range] at hd
    obtain ⟨i, hi, rfl⟩ := hd
    exact h i hi)
  simpa using this

set_option maxRecDepth 10000 in
/-- the changes that an argument holds -/
theorem open_chs {H : Type} {enc : TypeId × Value → H} {W : World} {fuel : Nat} {ao : Option Addr} {len cap : Nat} {d : DataW H} {p : List MemPlace}
    (h : DataW.trod enc Tryz.prog W 0 (fun _ => true) true fuel 25 [.slice ao len cap] = some (d, p)) :
    ∃ l : List Ch, HCh W (.slice ao len cap) l ∧ l.length ≤ Rows.uptoBulk d ∧ ∀ c ∈ l, wCh c := by
  rcases Go.Deep.open_slice Tryz.underlying25 h with ⟨hcs, hx⟩ | ⟨a, l, c, m, n, D, Pl, hcs, _, hl, hm, hmm, hx, hel⟩
  · simp at hcs
    obtain ⟨rfl, rfl, rfl⟩ := hcs
    exact ⟨[], .inl ⟨rfl, rfl, rfl⟩, by simp, by simp⟩
  · simp at hcs
    obtain ⟨rfl, rfl, rfl⟩ := hcs
    simp only [Prod.mk.injEq] at hx
    obtain ⟨rfl, _⟩ := hx
    have hlm : len ≤ m := by rw [hmm]; split <;> omega
    have each : ∀ i, i < len → ∃ c : Ch, wCh c ∧ W.cell? (a.add (i * 4)) = some (.int .i64 c.A) ∧ W.cell? (a.add (i * 4 + 1)) = some (.int .i64 c.AN) ∧ W.cell? (a.add (i * 4 + 2)) = some (.int .i64 c.B) ∧ W.cell? (a.add (i * 4 + 3)) = some (.int .i64 c.BN) ∧ 1 ≤ Rows.uptoBulk (D i) := by
      intro i hi
      obtain ⟨cs', h1, h2⟩ := hel i (by omega)
      rw [cellsCh] at h1
      obtain ⟨_, hlen, hcell⟩ := World.cells?_some h1
      obtain ⟨xs, k, hk, hxy, _, hxl, hf⟩ := DataW.trod_struct Tryz.underlying64 h2
      match xs, hxl, cs', hlen with
      | [y0, y1, y2, y3], _, [v0, v1, v2, v3], _ =>
        have g0 := hf 0 _ rfl
        have g1 := hf 1 _ rfl
        have g2 := hf 2 _ rfl
        have g3 := hf 3 _ rfl
        simp [cellsInt] at g0 g1 g2 g3
        obtain ⟨z0, e0, _, w0⟩ := DataW.trod_int Tryz.underlying3 g0
        obtain ⟨z1, e1, _, w1⟩ := DataW.trod_int Tryz.underlying3 g1
        obtain ⟨z2, e2, _, w2⟩ := DataW.trod_int Tryz.underlying3 g2
        obtain ⟨z3, e3, _, w3⟩ := DataW.trod_int Tryz.underlying3 g3
        cases e0
        cases e1
        cases e2
        cases e3
        have c0 := hcell 0 (by omega)
        have c1 := hcell 1 (by omega)
        have c2 := hcell 2 (by omega)
        have c3 := hcell 3 (by omega)
        rw [Go.Deep.add_add] at c0 c1 c2 c3
        simp only [Prod.mk.injEq] at hxy
        refine ⟨⟨z0, z1, z2, z3⟩, ⟨w64_of w0, w64_of w1, w64_of w2, w64_of w3⟩, by simpa using c0, by simpa using c1, by simpa using c2, by simpa using c3, ?_⟩
        rw [hxy.1, Rows.uptoBulk]
        omega
    have : Inhabited Ch := ⟨⟨0, 0, 0, 0⟩⟩
    obtain ⟨f, hf⟩ := Go.Deep.choose_lt each
    have hlen : ((List.range len).map f).length = len := by simp
    refine ⟨(List.range len).map f, .inr ⟨a, cap, by rw [hlen], by rw [hlen]; exact hl, fun j u hj => ?_⟩, ?_, ?_⟩
    · have hj' : j < len * 4 := by
        have := (List.getElem?_eq_some_iff.1 hj).1
        rw [chcells_length, hlen] at this
        exact this
      obtain ⟨h0, h1, h2, h3⟩ := chcells_at ((List.range len).map f) (j / 4) (by rw [hlen]; omega)
      obtain ⟨_, g0, g1, g2, g3, _⟩ := hf (j / 4) (by omega)
      simp only [List.getElem_map, List.getElem_range] at h0 h1 h2 h3
      rcases (by omega : j = 4 * (j / 4) ∨ j = 4 * (j / 4) + 1 ∨ j = 4 * (j / 4) + 2 ∨ j = 4 * (j / 4) + 3) with e | e | e | e
      · rw [e, h0] at hj
        rw [e, Nat.mul_comm, g0, hj]
      · rw [e, h1] at hj
        rw [e, Nat.mul_comm, g1, hj]
      · rw [e, h2] at hj
        rw [e, Nat.mul_comm, g2, hj]
      · rw [e, h3] at hj
        rw [e, Nat.mul_comm, g3, hj]
    · rw [hlen, Rows.uptoBulk]
      have := bulk_range D len fun i hi => (hf i hi).2.2.2.2.2
      omega
    · intro c hc
      simp only [List.mem_map, List.mem_range] at hc
      obtain ⟨i, hi, rfl⟩ := hc
      exact (hf i hi).1
end Go.Proofs.YtgiojkhmkeocfaaGreatDoor

/- Where each class of a text stands: places, walked. -/
set_option maxRecDepth 20000
namespace Go.Proofs.YtgiojkhmkeocfaaGreatDoor
open Go.RowKit Go.Maps

theorem tm_snoc (c a : Int) (t : List Int) : tm c (t ++ [a]) = tm c t + if a = c then 1 else 0 := by
  induction t with
  | nil => simp [tm]
  | cons b t ih => rw [List.cons_append, tm, tm, ih]; omega
theorem tm_zero {c : Int} {t : List Int} : tm c t = 0 ↔ c ∉ t := by
  induction t with
  | nil => simp [tm]
  | cons b t ih =>
    rw [tm, List.mem_cons]
    by_cases h : b = c
    · simp [h]
    · rw [if_neg h, Nat.zero_add, ih]
      constructor
      · rintro h1 (h2 | h2)
        · exact h h2.symm
        · exact h1 h2
      · exact fun h1 h2 => h1 (.inr h2)
/-- where a class stands: nowhere, at a place, at several -/
def pf (t : List Int) (c : Int) : Option Int := if tm c t = 0 then none else if tm c t = 1 then some (t.idxOf c : Nat) else some (-1)
theorem pf_snoc (t : List Int) (a c : Int) : pf (t ++ [a]) c = if a = c then some (if (pf t a).isSome then -1 else (t.length : Int)) else pf t c := by
  unfold pf
  rw [tm_snoc]
  by_cases e : a = c
  · subst e
    rw [if_pos rfl, if_pos rfl, if_neg (by omega)]
    by_cases h0 : tm a t = 0
    · rw [if_pos (by omega), if_pos h0, List.idxOf_append, if_neg (tm_zero.1 h0)]
      simp
    · rw [if_neg (by omega), if_neg h0]
      split <;> simp
  · rw [if_neg e, if_neg e, Nat.add_zero]
    by_cases h0 : tm c t = 0
    · rw [if_pos h0, if_pos h0]
    · have hm : c ∈ t := by
        by_cases q : c ∈ t
        · exact q
        · exact absurd (tm_zero.2 q) h0
      rw [if_neg h0, if_neg h0, List.idxOf_append, if_pos hm]
/-- a map that tells where each class stands -/
structure Plc {H : Type} (D : DataW H) (t : List Int) : Prop where
  tidy : Tidy D
  has : ∀ c, Maps.has D (.int .i64 c) = (pf t c).isSome
  at_ : ∀ c, D.atKey (.int .i64 c) (.lit (.int .i64 0)) = .lit (.int .i64 ((pf t c).getD 0))
theorem Plc.nil {H : Type} : Plc (H := H) (.map []) [] := ⟨tidy_empty, fun _ => rfl, fun _ => by rw [atKey_of_not_has rfl]; rfl⟩
theorem Plc.put {H : Type} {D : DataW H} {t : List Int} (h : Plc D t) (a : Int) : Plc (D.put (.int .i64 a) (.lit (.int .i64 (if (pf t a).isSome then -1 else (t.length : Int))))) (t ++ [a]) := by
  have hk : WideAt.IsKeyLit (.int .i64 a) := trivial
  have hne : ∀ {g : Int}, a ≠ g → (Lit.int .i64 g) ≠ .int .i64 a := fun hg e => hg (by cases e; rfl)
  refine ⟨h.tidy.put hk _, fun c => ?_, fun c => ?_⟩
  · rw [pf_snoc]
    by_cases e : a = c
    · subst e
      rw [has_put_same h.tidy.isMap hk, if_pos rfl]; rfl
    · rw [has_put_other (hne e), h.has, if_neg e]
  · rw [pf_snoc]
    by_cases e : a = c
    · subst e
      rw [atKey_put_same h.tidy.isMap hk, if_pos rfl]; rfl
    · rw [atKey_put_other (hne e), h.at_, if_neg e]
theorem intKeyed : Keyed Tryz.prog 3 := int_keyed Tryz.underlying3
theorem zeroI2 (w : World) : (zeroValue 3).run Tryz.prog w = .ok (.int .i64 0) w := by kernel_rfl
/-- such a map in memory -/
def Mo (t : List Int) (B : Nat) (w : World) : Prop := ∃ D : DataW Unit, w.ownsMap Tryz.prog 3 (plainElem Tryz.prog 3) B t.length D ∧ Plc D t
section
variable {t : List Int} {B : Nat} {w w' : World}
theorem Mo.lt (h : Mo t B w) : B < w.heap.size := by obtain ⟨D, hm, _⟩ := h; exact hm.lt
theorem Mo.keep (h : Mo t B w) (hb : w'.heap[B]? = w.heap[B]?) : Mo t B w' := by
  obtain ⟨D, ⟨es, clock, hm, r⟩, hd⟩ := h
  exact ⟨D, ⟨es, clock, hb.trans hm, r⟩, hd⟩
theorem key_int {c : Int} (hc : w64 c) : keyOf Tryz.prog 3 (.int .i64 c) = some (.int .i64 c) := keyOf_int_mk Tryz.underlying3 (WalkArith.wf_i64 hc)
theorem Mo.look (h : Mo t B w) {c : Int} (hc : w64 c) : (Instr.lookup 281 (.map (some B)) (.int .i64 c) true).run Tryz.prog w = .ok (.tuple #[.int .i64 ((pf t c).getD 0), .bool (pf t c).isSome]) w := by
  obtain ⟨D, hm, hd⟩ := h
  obtain ⟨v, ps, hr, hv⟩ := hm.look_ok intKeyed Tryz.underlying281 (zeroI2 w) (plainElem_int Tryz.underlying3 (by decide)) (key_int hc)
  obtain ⟨d, rfl, hc', _⟩ := plainElem_int_inv Tryz.underlying3 hv
  have e := congrArg Prod.fst hc'
  dsimp only at e
  rw [hd.at_] at e
  cases e
  rw [hr, hd.has]
theorem Mo.store (h : Mo t B w) {a : Int} (ha : w64 a) (hl : t.length ≤ 1099511627776) (z : Int) (hz : z = if (pf t a).isSome then -1 else (t.length : Int)) :
    ∃ w', (Instr.mapUpdate 281 (.map (some B)) (.int .i64 a) (.int .i64 z)).run Tryz.prog w = .ok () w' ∧ Mo (t ++ [a]) B w' ∧ w.grownBy w' (some B) := by
  obtain ⟨D, hm, hd⟩ := h
  obtain ⟨w', hr, ho, ht⟩ := hm.store (val := .int .i64 z) intKeyed Tryz.underlying281 (by unfold maxLen; omega) (key_int ha) (plainElem_int Tryz.underlying3 (WalkArith.wf_i64 (by subst hz; split <;> omega)))
  exact ⟨w', hr, ⟨_, by simpa using ho, by subst hz; exact hd.put a⟩, ht.grown⟩
end

end Go.Proofs.YtgiojkhmkeocfaaGreatDoor

/- The lines that are there once in each text: Unique of the code, walked. -/
set_option maxRecDepth 20000
namespace Go.Proofs.YtgiojkhmkeocfaaGreatDoor
open Go.RowKit Go.Maps

end Go.Proofs.YtgiojkhmkeocfaaGreatDoor

/- patience.Diff's closure find, walked, by induction on how long a piece may be. -/
set_option maxRecDepth 20000
namespace Go.Proofs.YtgiojkhmkeocfaaGreatDoor
open Go.RowKit
attribute [local simp] low_drew

/-- a pair in a box -/
def Bx2 (u : World) (B : Nat) (p q : Nat) : Prop := u.heap[B]? = some (.cells #[.int .i64 (p : Int), .int .i64 (q : Int)] 249 (0, 0))
section
variable {u u' : World} {B p q : Nat}
theorem Bx2.cells (h : Bx2 u B p q) : u.cell? ⟨B, 0, none⟩ = some (.int .i64 (p : Int)) ∧ u.cell? ⟨B, 1, none⟩ = some (.int .i64 (q : Int)) := by
  refine ⟨?_, ?_⟩ <;> rw [Lib.cell_of_heap h] <;> rfl
theorem Bx2.frozen (h : Bx2 u B p q) (j : Nat) : u.frozen? ⟨B, j, none⟩ = false := by
  unfold World.frozen?
  rw [h]
  rfl
theorem Bx2.lt (h : Bx2 u B p q) : B < u.heap.size := (Array.getElem?_eq_some_iff.1 h).1
theorem Bx2.keep (h : Bx2 u B p q) {r : Option Nat} (hg : u.grownBy u' r) (hr : some B ≠ r) : Bx2 u' B p q := (hg.block B h.lt hr).trans h
theorem Bx2.low (h : Bx2 u B p q) (hg : Below u.heap.size u u') : Bx2 u' B p q := (hg.block B h.lt).trans h
theorem Bx2.new (w : World) (p q : Nat) : Bx2 (w.alloc (.cells #[.int .i64 (p : Int), .int .i64 (q : Int)] 249)) w.heap.size p q := _root_.Go.heap_alloc_new w _
theorem Bx2.put (h : Bx2 u B p q) (p' q' : Nat) : Bx2 ((u.setCell ⟨B, 0, none⟩ (.int .i64 (p' : Int))).setCell ⟨B, 1, none⟩ (.int .i64 (q' : Int))) B p' q' :=
  heap_setCell_same _ B 1 _ _ _ (heap_setCell_same u B 0 _ _ _ h)
end

end Go.Proofs.YtgiojkhmkeocfaaGreatDoor

/- None of the reference, walked. -/
set_option maxRecDepth 20000
namespace Go.Proofs.YtgiojkhmkeocfaaGreatDoor
open Go.RowKit

end Go.Proofs.YtgiojkhmkeocfaaGreatDoor

/- The reference's Trim, walked. -/
set_option maxRecDepth 20000
namespace Go.Proofs.YtgiojkhmkeocfaaGreatDoor
open Go.RowKit

section
variable {W0 : World} {n : Nat} {K : List Int} {B a b c d : Nat} {u : World}
end

end Go.Proofs.YtgiojkhmkeocfaaGreatDoor

/- What the least edit script keeps, by the reference: Keeps, Length and Diff, walked. -/
set_option maxRecDepth 20000
namespace Go.Proofs.YtgiojkhmkeocfaaGreatDoor
open Go.RowKit

end Go.Proofs.YtgiojkhmkeocfaaGreatDoor

/- The reference's Least, walked. -/
set_option maxRecDepth 20000
namespace Go.Proofs.YtgiojkhmkeocfaaGreatDoor
open Go.RowKit
attribute [local simp] low_drew

end Go.Proofs.YtgiojkhmkeocfaaGreatDoor

/- The reference's piece, walked, by induction on how long it may be. -/
set_option maxRecDepth 20000
namespace Go.Proofs.YtgiojkhmkeocfaaGreatDoor
open Go.RowKit
attribute [local simp] low_drew

end Go.Proofs.YtgiojkhmkeocfaaGreatDoor

/- What an argument of type []redlineref07.Pair holds. -/
set_option maxRecDepth 20000
namespace Go.Proofs.YtgiojkhmkeocfaaGreatDoor
open Go.ChangeShapes Go.WideShapes Go.ChangeAt Go.RowKit

end Go.Proofs.YtgiojkhmkeocfaaGreatDoor

/- patience.Diff and the reference's Diff, walked. -/
set_option maxRecDepth 20000
namespace Go.Proofs.YtgiojkhmkeocfaaGreatDoor
open Go.RowKit

/-- what patience keeps -/
def pKeep (x y : List Int) : List Int := wrk (List.replicate x.length (-1)) (pcs (pmid x y) x y (x.length + 1) 0 x.length 0 y.length)
theorem pKeep_ok (x y : List Int) : Okp x y 0 x.length 0 y.length (pcs (pmid x y) x y (x.length + 1) 0 x.length 0 y.length) := pcs_ok (pmid_ok x y) _ 0 x.length 0 y.length (Nat.zero_le _) (Nat.le_refl _) (Nat.zero_le _) (Nat.le_refl _)
theorem pKeep_kpt (x y : List Int) : Kpt x y (pKeep x y) := (pKeep_ok x y).kpt

end Go.Proofs.YtgiojkhmkeocfaaGreatDoor

/- What patience keeps is honest, and what it keeps for sure: plain. -/
set_option maxRecDepth 20000
namespace Go.Proofs.YtgiojkhmkeocfaaGreatDoor

theorem pKeep_front (x y : List Int) (i : Nat) (hi : i < tf x y 0 x.length 0 y.length) : (pKeep x y)[i]? = some (i : Int) := by
  have hm : (⟨(i : Int), (i : Int)⟩ : Pr) ∈ pcs (pmid x y) x y (x.length + 1) 0 x.length 0 y.length := by
    rw [pcs, ends, List.mem_append]
    exact .inl (mem_fp.2 ⟨i, hi, by simp⟩)
  have := (pKeep_ok x y).at hm
  simpa [pKeep] using this
/-- equal texts have no changes, others have some -/
theorem pKeep_nil (x y : List Int) (hx : x.length ≤ 4096) (hy : y.length ≤ 4096) : mkL (pKeep x y) y.length = [] ↔ x = y := by
  constructor
  · exact nil_same (pKeep_kpt x y).vk (pKeep_kpt x y).len (pKeep_kpt x y).eqs hx hy
  · rintro rfl
    have e : pKeep x x = (List.range x.length).map fun (j : Nat) => (0 : Int) + (j : Int) := by
      apply List.ext_getElem?
      intro i
      by_cases hi : i < x.length
      · rw [pKeep_front x x i (by rw [tf_all]; omega)]
        simp [hi]
      · rw [List.getElem?_eq_none (by rw [(pKeep_kpt x x).len]; omega), List.getElem?_eq_none (by simp; omega)]
    rw [e]
    exact mk_id x.length
end Go.Proofs.YtgiojkhmkeocfaaGreatDoor

/- Runs of two rows of numbers, and the one to hold on to: plain. -/
set_option maxRecDepth 20000
namespace Go.Proofs.YtgiojkhmkeocfaaGreatDoor

/-- a run -/
structure Hr where
  X : Nat
  Y : Nat
  N : Nat
  R : Nat
/-- how often the member at a place stands in x -/
def cnt (x : List Int) (k : Nat) : Nat := match x[k]? with
  | some c => x.count c
  | none => x.length
/-- how rare n members from i on are -/
def rar (x : List Int) (i : Nat) : Nat → Nat
  | 0 => x.length
  | n + 1 => min (rar x i n) (cnt x (i + n))
/-- how many are the same from i and j on -/
def tl (x y : List Int) (i j : Nat) : Nat := tf x y i x.length j y.length
/-- how many are the same ahead of i and j -/
def hd (x y : List Int) (i j : Nat) : Nat := tb x y 0 i 0 j
theorem tl_step (x y : List Int) (i j : Nat) : tl x y i j = if i < x.length ∧ j < y.length ∧ x[i]? = y[j]? then tl x y (i + 1) (j + 1) + 1 else 0 := by unfold tl; rw [tf_eq]
theorem tl_le (x y : List Int) (i j : Nat) : tl x y i j ≤ x.length - i ∧ tl x y i j ≤ y.length - j := tf_le x y i x.length j y.length
theorem tl_same (x y : List Int) (i j : Nat) : ∀ k, k < tl x y i j → x[i + k]? = y[j + k]? := tf_same x y i x.length j y.length
/-- a run of x and y -/
structure IsRun (x y : List Int) (r : Hr) : Prop where
  hx : r.X < x.length
  hy : r.Y < y.length
  same : x[r.X]? = y[r.Y]?
  fst : ¬ (0 < r.X ∧ 0 < r.Y ∧ x[r.X - 1]? = y[r.Y - 1]?)
  n : r.N = tl x y r.X r.Y
  r : r.R = rar x r.X r.N
/-- rather held on to -/
def hlt (r b : Hr) : Prop := r.R < b.R ∨ (r.R = b.R ∧ (b.N < r.N ∨ (r.N = b.N ∧ (r.X < b.X ∨ (r.X = b.X ∧ r.Y < b.Y)))))
def Bst (x y : List Int) (b : Hr) : Prop := IsRun x y b ∧ ∀ r, IsRun x y r → r = b ∨ hlt b r
theorem Bst.one {x y : List Int} {a b : Hr} (ha : Bst x y a) (hb : Bst x y b) : a = b := by
  rcases ha.2 b hb.1 with h | h
  · exact h.symm
  · rcases hb.2 a ha.1 with h' | h'
    · exact h'
    · unfold hlt at h h'
      omega
theorem IsRun.pos {x y : List Int} {r : Hr} (h : IsRun x y r) : 0 < r.N := by
  rw [h.n, tl_step, if_pos ⟨h.hx, h.hy, h.same⟩]
  omega
/-- going through a row: the first one that no other outdoes -/
def pickL (better : Hr → Hr → Bool) (b : Hr) (l : List Hr) : Hr := l.foldl (fun b r => if better r b then r else b) b
/-- the reference: rarer, or as rare and longer -/
def btR (r b : Hr) : Bool := decide (r.R < b.R) || (decide (r.R = b.R) && decide (b.N < r.N))
/-- in the order of their places -/
def lex (a b : Hr) : Prop := a.X < b.X ∨ (a.X = b.X ∧ a.Y < b.Y)
theorem pickR_spec (l : List Hr) : ∀ (P : List Hr) (b : Hr), b ∈ P → (∀ r ∈ P, r = b ∨ hlt b r) → (P ++ l).Pairwise lex → pickL btR b l ∈ P ++ l ∧ ∀ r ∈ P ++ l, r = pickL btR b l ∨ hlt (pickL btR b l) r := by
  induction l with
  | nil => intro P b hb h _; simp only [List.append_nil]; exact ⟨hb, h⟩
  | cons c l ih =>
    intro P b hb h hp
    have e : P ++ c :: l = (P ++ [c]) ++ l := by simp
    rw [e] at hp ⊢
    have hbc : lex b c := by
      have := (List.pairwise_append.1 (List.pairwise_append.1 hp).1).2.2 b hb c (List.mem_singleton.2 rfl)
      exact this
    unfold pickL
    rw [List.foldl_cons]
    by_cases hb' : btR c b = true
    · rw [if_pos hb']
      refine ih (P ++ [c]) c (by simp) (fun r hr => ?_) hp
      rcases List.mem_append.1 hr with hr | hr
      · right
        have h1 := h r hr
        simp [btR] at hb'
        rcases h1 with rfl | h1
        · unfold hlt; omega
        · unfold hlt at h1 ⊢; omega
      · left
        simpa using hr
    · rw [if_neg hb']
      refine ih (P ++ [c]) b (by simp [hb]) (fun r hr => ?_) hp
      rcases List.mem_append.1 hr with hr | hr
      · exact h r hr
      · right
        have e2 : r = c := by simpa using hr
        subst e2
        simp [btR] at hb'
        unfold lex at hbc
        unfold hlt
        omega
end Go.Proofs.YtgiojkhmkeocfaaGreatDoor

/- All runs, and those that hold one of the rarest members; both ways find the same one: plain. -/
set_option maxRecDepth 20000
namespace Go.Proofs.YtgiojkhmkeocfaaGreatDoor

/-- the run that begins at two places, if one does -/
def rj (x y : List Int) (i j : Nat) : List Hr := if x[i]? = y[j]? ∧ ¬ (0 < i ∧ 0 < j ∧ x[i - 1]? = y[j - 1]?) then [⟨i, j, tl x y i j, rar x i (tl x y i j)⟩] else []
def rowR (x y : List Int) (i : Nat) : List Hr := (List.range' 0 y.length).flatMap (rj x y i)
/-- all runs -/
def runs (x y : List Int) : List Hr := (List.range' 0 x.length).flatMap (rowR x y)
theorem mem_runs (x y : List Int) (r : Hr) : r ∈ runs x y ↔ IsRun x y r := by
  unfold runs rowR rj
  simp only [List.mem_flatMap, List.mem_range'_1, Nat.zero_add]
  constructor
  · rintro ⟨i, ⟨_, hi⟩, j, ⟨_, hj⟩, h⟩
    split at h
    · rename_i hh
      simp at h
      subst h
      exact ⟨hi, hj, hh.1, hh.2, rfl, rfl⟩
    · simp at h
  · intro h
    refine ⟨r.X, ⟨Nat.zero_le _, h.hx⟩, r.Y, ⟨Nat.zero_le _, h.hy⟩, ?_⟩
    rw [if_pos ⟨h.same, h.fst⟩]
    simp
    obtain ⟨X, Y, N, R⟩ := r
    have h1 := h.n
    have h2 := h.r
    simp only at h1 h2 ⊢
    rw [h2, ← h1]
theorem flat_lex {n : Nat} (f : Nat → List Hr) (s : Nat) (h1 : ∀ i, ∀ r ∈ f i, r.X = i) (h2 : ∀ i, (f i).Pairwise lex) : ((List.range' s n).flatMap f).Pairwise lex := by
  induction n generalizing s with
  | zero => exact List.Pairwise.nil
  | succ n ih =>
    rw [List.range'_succ, List.flatMap_cons]
    refine List.pairwise_append.2 ⟨h2 s, ih (s + 1), fun a ha b hb => ?_⟩
    rw [List.mem_flatMap] at hb
    obtain ⟨i, hi, hb⟩ := hb
    rw [List.mem_range'_1] at hi
    have e1 := h1 s a ha
    have e2 := h1 i b hb
    left
    omega
theorem row_lex {n : Nat} (f : Nat → List Hr) (s X : Nat) (h1 : ∀ j, ∀ r ∈ f j, r.X = X ∧ r.Y = j) (h2 : ∀ j, (f j).Pairwise lex) : ((List.range' s n).flatMap f).Pairwise lex := by
  induction n generalizing s with
  | zero => exact List.Pairwise.nil
  | succ n ih =>
    rw [List.range'_succ, List.flatMap_cons]
    refine List.pairwise_append.2 ⟨h2 s, ih (s + 1), fun a ha b hb => ?_⟩
    rw [List.mem_flatMap] at hb
    obtain ⟨i, hi, hb⟩ := hb
    rw [List.mem_range'_1] at hi
    have e1 := h1 s a ha
    have e2 := h1 i b hb
    right
    omega
theorem rj_at (x y : List Int) (i j : Nat) : (∀ r ∈ rj x y i j, r.X = i ∧ r.Y = j) ∧ (rj x y i j).Pairwise lex := by
  unfold rj
  split
  · refine ⟨fun r hr => ?_, List.pairwise_singleton _ _⟩
    simp at hr
    subst hr
    exact ⟨rfl, rfl⟩
  · exact ⟨fun r hr => by simp at hr, List.Pairwise.nil⟩
theorem runs_lex (x y : List Int) : (runs x y).Pairwise lex := by
  unfold runs
  refine flat_lex _ 0 (fun i r hr => ?_) (fun i => row_lex _ 0 i (fun j r hr => (rj_at x y i j).1 r hr) (fun j => (rj_at x y i j).2))
  unfold rowR at hr
  rw [List.mem_flatMap] at hr
  obtain ⟨j, _, hr⟩ := hr
  exact ((rj_at x y i j).1 r hr).1
/-- the run to hold on to -/
def best (x y : List Int) : Option Hr := match runs x y with
  | [] => none
  | b :: l => some (pickL btR b l)
theorem best_some {x y : List Int} {b : Hr} (h : best x y = some b) : Bst x y b := by
  unfold best at h
  cases hr : runs x y with
  | nil => rw [hr] at h; cases h
  | cons c l =>
    rw [hr] at h
    cases h
    have := pickR_spec l [c] c (by simp) (fun r hr => by simp at hr; exact .inl hr) (by have := runs_lex x y; rw [hr] at this; exact this)
    have e : [c] ++ l = runs x y := by rw [hr]; rfl
    rw [e] at this
    exact ⟨(mem_runs x y _).1 this.1, fun r h => this.2 r ((mem_runs x y r).2 h)⟩
/-- the run in which two equal members stand -/
def runAt (x y : List Int) (i j R : Nat) : Hr := ⟨i - hd x y i j, j - hd x y i j, hd x y i j + tl x y i j, R⟩
/-- a rarest member stands ahead of it in its run -/
def skp (x : List Int) (R i t : Nat) : Bool := (List.range t).any fun s => cnt x (i - (s + 1)) == R
/-- where the class of a member stands in y, if it is one of the rarest -/
def pj (x y : List Int) (R i : Nat) : List Nat := if cnt x i = R then (List.range y.length).filter (fun j => decide (y[j]? = x[i]?)) else []
def ck (x y : List Int) (R i j : Nat) : List Hr := if skp x R i (hd x y i j) then [] else [runAt x y i j R]
/-- R is how often the rarest class stands that is in both -/
structure Rst (x y : List Int) (R : Nat) : Prop where
  le : ∀ i j, i < x.length → j < y.length → x[i]? = y[j]? → R ≤ cnt x i
  ex : ∃ i j, i < x.length ∧ j < y.length ∧ x[i]? = y[j]? ∧ cnt x i = R
section
variable {x y : List Int} {R : Nat}
end
/-- the least number of times that a class of y stands in x, with what was found ahead of it; 0: none -/
def rs (x : List Int) : Nat → List Int → Nat
  | l, [] => l
  | l, c :: y => rs x (if 0 < x.count c ∧ (l = 0 ∨ x.count c < l) then x.count c else l) y
end Go.Proofs.YtgiojkhmkeocfaaGreatDoor

/- What is kept of two pieces, by the layer histogram: plain. -/
set_option maxRecDepth 20000
namespace Go.Proofs.YtgiojkhmkeocfaaGreatDoor

/-- what is kept of a middle, by the run to hold on to -/
def hsel (x y : List Int) (rec : Nat → Nat → Nat → Nat → List Pr) (a b c d : Nat) : Option Hr → List Pr
  | none => []
  | some r => if 64 < r.R then lp a c (kp 0 (sub x a b) (sub y c d)) else fp (a + r.X) (c + r.Y) r.N ++ (rec a (a + r.X) c (c + r.Y) ++ rec (a + r.X + r.N) b (c + r.Y + r.N) d)
def hmid (x y : List Int) (rec : Nat → Nat → Nat → Nat → List Pr) (a b c d : Nat) : List Pr := hsel x y rec a b c d (best (sub x a b) (sub y c d))
/-- a run of two pieces lies within them -/
theorem run_in {x y : List Int} {a b c d : Nat} (hb : b ≤ x.length) (hd : d ≤ y.length) {r : Hr} (h : IsRun (sub x a b) (sub y c d) r) : 0 < r.N ∧ a + r.X + r.N ≤ b ∧ c + r.Y + r.N ≤ d ∧ ∀ i, i < r.N → x[a + r.X + i]? = y[c + r.Y + i]? := by
  have h1 := tl_le (sub x a b) (sub y c d) r.X r.Y
  have h2 := h.n
  have h3 := h.hx
  have h4 := h.hy
  have h5 := h.pos
  rw [sub_length x a b hb] at h1 h3
  rw [sub_length y c d hd] at h1 h4
  refine ⟨h5, by omega, by omega, fun i hi => ?_⟩
  have := tl_same (sub x a b) (sub y c d) r.X r.Y i (by omega)
  rw [sub_at x a b _ (by omega), sub_at y c d _ (by omega)] at this
  rw [Nat.add_assoc, Nat.add_assoc]
  exact this
theorem hmid_ok (x y : List Int) : MOk (hmid x y) x y := by
  intro rec a b c d hab hb hcd hd hrec
  unfold hmid
  cases hr : best (sub x a b) (sub y c d) with
  | none => exact Okp.nil _ _ _ _
  | some r =>
    rw [hsel]
    have hin := run_in hb hd (best_some hr).1
    split
    · exact least_ok x y a b c d (by omega) hb (by omega) hd
    · have h1 := fp_ok (x := x) (y := y) (a + r.X) (c + r.Y) r.N hin.2.2.2
      have h2 := hrec a (a + r.X) c (c + r.Y) (by omega) (by omega) (by omega) (by omega)
      have h3 := hrec (a + r.X + r.N) b (c + r.Y + r.N) d (by omega) hb (by omega) hd
      have h23 := h2.cat h3 (.inl ⟨by omega, by omega⟩) (A := a) (B := b) (C := c) (D := d) ⟨by omega, by omega⟩ ⟨by omega, by omega⟩ ⟨by omega, by omega⟩ ⟨by omega, by omega⟩
      refine ⟨fun p hp => ?_, fun p hp q hq => ?_, fun p hp => ?_⟩
      · rcases List.mem_append.1 hp with hp | hp
        · exact (h1.mono (by omega) (by omega) (by omega) (by omega) : Okp x y a b c d _).wn p hp
        · exact h23.wn p hp
      · have hx : ∀ p ∈ fp (a + r.X) (c + r.Y) r.N, ∀ q ∈ rec a (a + r.X) c (c + r.Y) ++ rec (a + r.X + r.N) b (c + r.Y + r.N) d, ab q p ∨ ab p q := by
          intro p hp q hq
          have e1 := h1.wn p hp
          unfold Wn at e1
          rcases List.mem_append.1 hq with hq | hq
          · have e2 := h2.wn q hq
            unfold Wn at e2
            exact .inr ⟨by omega, by omega⟩
          · have e2 := h3.wn q hq
            unfold Wn at e2
            exact .inl ⟨by omega, by omega⟩
        rcases List.mem_append.1 hp with hp | hp <;> rcases List.mem_append.1 hq with hq | hq
        · exact h1.ris p hp q hq
        · exact .inr (hx p hp q hq)
        · exact .inr ((hx q hq p hp).symm)
        · exact h23.ris p hp q hq
      · rcases List.mem_append.1 hp with hp | hp
        · exact h1.eqs p hp
        · exact h23.eqs p hp
/-- what histogram keeps -/
def hKeep (x y : List Int) : List Int := wrk (List.replicate x.length (-1)) (pcs (hmid x y) x y (x.length + 1) 0 x.length 0 y.length)
theorem hKeep_ok (x y : List Int) : Okp x y 0 x.length 0 y.length (pcs (hmid x y) x y (x.length + 1) 0 x.length 0 y.length) := pcs_ok (hmid_ok x y) _ 0 x.length 0 y.length (Nat.zero_le _) (Nat.le_refl _) (Nat.zero_le _) (Nat.le_refl _)
theorem hKeep_kpt (x y : List Int) : Kpt x y (hKeep x y) := (hKeep_ok x y).kpt
theorem hKeep_front (x y : List Int) (i : Nat) (hi : i < tf x y 0 x.length 0 y.length) : (hKeep x y)[i]? = some (i : Int) := by
  have hm : (⟨(i : Int), (i : Int)⟩ : Pr) ∈ pcs (hmid x y) x y (x.length + 1) 0 x.length 0 y.length := by
    rw [pcs, ends, List.mem_append]
    exact .inl (mem_fp.2 ⟨i, hi, by simp⟩)
  have := (hKeep_ok x y).at hm
  simpa [hKeep] using this
theorem hKeep_nil (x y : List Int) (hx : x.length ≤ 4096) (hy : y.length ≤ 4096) : mkL (hKeep x y) y.length = [] ↔ x = y := by
  constructor
  · exact nil_same (hKeep_kpt x y).vk (hKeep_kpt x y).len (hKeep_kpt x y).eqs hx hy
  · rintro rfl
    have e : hKeep x x = (List.range x.length).map fun (j : Nat) => (0 : Int) + (j : Int) := by
      apply List.ext_getElem?
      intro i
      by_cases hi : i < x.length
      · rw [hKeep_front x x i (by rw [tf_all]; omega)]
        simp [hi]
      · rw [List.getElem?_eq_none (by rw [(hKeep_kpt x x).len]; omega), List.getElem?_eq_none (by simp; omega)]
    rw [e]
    exact mk_id x.length
end Go.Proofs.YtgiojkhmkeocfaaGreatDoor

/- What speedy keeps: plain. -/
set_option maxRecDepth 20000
namespace Go.Proofs.YtgiojkhmkeocfaaGreatDoor

/-- the least place from nx on, fewer than far behind it, at which y has c -/
def gdn (c : Int) (y : List Int) (nx : Nat) (far : Int) : Option Nat := match (y.drop nx).findIdx? (fun z => z == c) with
  | some k => if (k : Int) < far then some (nx + k) else none
  | none => none
/-- what is kept by going through both once -/
def gdy (y : List Int) (far : Int) : Nat → List Int → List Int
  | _, [] => []
  | nx, c :: x => match gdn c y nx far with
    | some j => (j : Int) :: gdy y far (j + 1) x
    | none => -1 :: gdy y far nx x
theorem gdn_some {c : Int} {y : List Int} {nx j : Nat} {far : Int} (h : gdn c y nx far = some j) : nx ≤ j ∧ j < y.length ∧ ((j - nx : Nat) : Int) < far ∧ y[j]? = some c ∧ ∀ i, nx ≤ i → i < j → y[i]? ≠ some c := by
  unfold gdn at h
  split at h
  · rename_i k hk
    split at h
    · rename_i hf
      obtain rfl := Option.some.inj h
      obtain ⟨h1, h2, h3⟩ := List.findIdx?_eq_some_iff_getElem.1 hk
      rw [List.length_drop] at h1
      rw [List.getElem_drop] at h2
      refine ⟨by omega, by omega, by rw [show nx + k - nx = k by omega]; exact hf, ?_, fun i hi hj e => ?_⟩
      · rw [List.getElem?_eq_getElem (by omega)]
        rw [beq_iff_eq.1 h2]
      · have h4 := h3 (i - nx) (by omega)
        rw [List.getElem_drop] at h4
        rw [List.getElem?_eq_getElem (by omega)] at e
        have e2 : y[nx + (i - nx)]'(by omega) = c := by
          rw [← Option.some.inj e]
          congr 1
          omega
        rw [e2] at h4
        simp at h4
    · cases h
  · cases h
theorem gdy_length (y : List Int) (far : Int) (x : List Int) : ∀ nx, (gdy y far nx x).length = x.length := by
  induction x with
  | nil => intro nx; rfl
  | cons c x ih =>
    intro nx
    rw [gdy]
    split
    · rw [List.length_cons, ih, List.length_cons]
    · rw [List.length_cons, ih, List.length_cons]
theorem gdy_vk (y : List Int) (far : Int) (x : List Int) : ∀ nx : Nat, Vk nx y.length (gdy y far nx x) := by
  induction x with
  | nil => intro nx; exact trivial
  | cons c x ih =>
    intro nx
    rw [gdy]
    split
    · rename_i j hj
      obtain ⟨h1, h2, _⟩ := gdn_some hj
      refine .inr ⟨by omega, by omega, by omega, ?_⟩
      have := ih (j + 1)
      rw [show ((j + 1 : Nat) : Int) = (j : Int) + 1 by omega] at this
      exact this
    · exact .inl ⟨rfl, ih nx⟩
theorem gdy_same (y : List Int) (far : Int) (x : List Int) : ∀ (nx i q : Nat), (gdy y far nx x)[i]? = some (q : Int) → x[i]? = y[q]? := by
  induction x with
  | nil => intro nx i q h; simp [gdy] at h
  | cons c x ih =>
    intro nx i q h
    rw [gdy] at h
    split at h
    · rename_i j hj
      cases i with
      | zero =>
        have e : (j : Int) = (q : Int) := by simpa using h
        obtain rfl : j = q := by omega
        rw [(gdn_some hj).2.2.2.1]
        rfl
      | succ i => exact ih (j + 1) i q (by simpa using h)
    · cases i with
      | zero => simp at h
      | succ i => exact ih nx i q (by simpa using h)

/-- what is kept of a middle, by the bound -/
def smid (B : Int) (x y : List Int) (_ : Nat → Nat → Nat → Nat → List Pr) (a b c d : Nat) : List Pr :=
  if ((b - a : Nat) : Int) * ((d - c : Nat) : Int) ≤ max 0 B then lp a c (kp 0 (sub x a b) (sub y c d)) else lp a c (gdy (sub y c d) 64 0 (sub x a b))
theorem gdy_ok (x y : List Int) (far : Int) (a b c d : Nat) (hab : a ≤ b) (hb : b ≤ x.length) (hcd : c ≤ d) (hd : d ≤ y.length) : Okp x y a b c d (lp a c (gdy (sub y c d) far 0 (sub x a b))) := by
  have h1 := lp_ok (x := x) (y := y) (gdy (sub y c d) far 0 (sub x a b)) a c 0 (d - c) (by
    have := gdy_vk (sub y c d) far (sub x a b) 0
    rw [sub_length y _ _ (by omega)] at this
    exact this) (fun i q hq => by
      have hl : i < (sub x a b).length := by
        have := (List.getElem?_eq_some_iff.1 hq).1
        rw [gdy_length] at this
        exact this
      have h2 := gdy_same (sub y c d) far (sub x a b) 0 i q hq
      have h3 := List.getElem?_eq_getElem hl
      rw [(sub_some h3).2, (sub_some (h2.symm.trans h3)).2])
  rw [gdy_length, sub_length x _ _ (by omega)] at h1
  exact h1.mono (Nat.le_refl _) (by omega) (by omega) (by omega)
theorem smid_ok (B : Int) (x y : List Int) : MOk (smid B x y) x y := by
  intro rec a b c d hab hb hcd hd _
  unfold smid
  split
  · exact least_ok x y a b c d (by omega) hb (by omega) hd
  · exact gdy_ok x y 64 a b c d (by omega) hb (by omega) hd
/-- what speedy keeps -/
def sKeep (B : Int) (x y : List Int) : List Int := wrk (List.replicate x.length (-1)) (pcs (smid B x y) x y (x.length + 1) 0 x.length 0 y.length)
theorem sKeep_ok (B : Int) (x y : List Int) : Okp x y 0 x.length 0 y.length (pcs (smid B x y) x y (x.length + 1) 0 x.length 0 y.length) := pcs_ok (smid_ok B x y) _ 0 x.length 0 y.length (Nat.zero_le _) (Nat.le_refl _) (Nat.zero_le _) (Nat.le_refl _)
theorem sKeep_kpt (B : Int) (x y : List Int) : Kpt x y (sKeep B x y) := (sKeep_ok B x y).kpt
theorem sKeep_front (B : Int) (x y : List Int) (i : Nat) (hi : i < tf x y 0 x.length 0 y.length) : (sKeep B x y)[i]? = some (i : Int) := by
  have hm : (⟨(i : Int), (i : Int)⟩ : Pr) ∈ pcs (smid B x y) x y (x.length + 1) 0 x.length 0 y.length := by
    rw [pcs, ends, List.mem_append]
    exact .inl (mem_fp.2 ⟨i, hi, by simp⟩)
  have := (sKeep_ok B x y).at hm
  simpa [sKeep] using this
theorem sKeep_nil (B : Int) (x y : List Int) (hx : x.length ≤ 4096) (hy : y.length ≤ 4096) : mkL (sKeep B x y) y.length = [] ↔ x = y := by
  constructor
  · exact nil_same (sKeep_kpt B x y).vk (sKeep_kpt B x y).len (sKeep_kpt B x y).eqs hx hy
  · rintro rfl
    have e : sKeep B x x = (List.range x.length).map fun (j : Nat) => (0 : Int) + (j : Int) := by
      apply List.ext_getElem?
      intro i
      by_cases hi : i < x.length
      · rw [sKeep_front B x x i (by rw [tf_all]; omega)]
        simp [hi]
      · rw [List.getElem?_eq_none (by rw [(sKeep_kpt B x x).len]; omega), List.getElem?_eq_none (by simp; omega)]
    rw [e]
    exact mk_id x.length
end Go.Proofs.YtgiojkhmkeocfaaGreatDoor

/- The reference's Length and Diff, walked. -/
set_option maxRecDepth 20000
namespace Go.Proofs.YtgiojkhmkeocfaaGreatDoor
open Go.RowKit

end Go.Proofs.YtgiojkhmkeocfaaGreatDoor

/- How often each class stands: count and rarest, walked. -/
set_option maxRecDepth 20000
namespace Go.Proofs.YtgiojkhmkeocfaaGreatDoor
open Go.RowKit Go.Maps

/-- a map that tells how often each class stands -/
structure Cnt {H : Type} (D : DataW H) (t : List Int) : Prop where
  tidy : Tidy D
  at_ : ∀ c, D.atKey (.int .i64 c) (.lit (.int .i64 0)) = .lit (.int .i64 (t.count c : Nat))
theorem Cnt.nil {H : Type} : Cnt (H := H) (.map []) [] := ⟨tidy_empty, fun _ => by rw [atKey_of_not_has rfl]; rfl⟩
theorem Cnt.put {H : Type} {D : DataW H} {t : List Int} (h : Cnt D t) (a : Int) : Cnt (D.put (.int .i64 a) (.lit (.int .i64 ((t.count a : Nat) + 1)))) (t ++ [a]) := by
  have hk : WideAt.IsKeyLit (.int .i64 a) := trivial
  have hne : ∀ {g : Int}, a ≠ g → (Lit.int .i64 g) ≠ .int .i64 a := fun hg e => hg (by cases e; rfl)
  refine ⟨h.tidy.put hk _, fun c => ?_⟩
  by_cases e : a = c
  · subst e
    rw [atKey_put_same h.tidy.isMap hk, List.count_append, List.count_singleton_self]
    rfl
  · rw [atKey_put_other (hne e), h.at_, List.count_append]
    have : [a].count c = 0 := by rw [List.count_eq_zero]; simp; exact fun q => e q.symm
    rw [this, Nat.add_zero]
theorem hKeyed : Keyed Tryz.prog 3 := int_keyed Tryz.underlying3
theorem hZero (w : World) : (zeroValue 3).run Tryz.prog w = .ok (.int .i64 0) w := by kernel_rfl
theorem hKey {c : Int} (hc : w64 c) : keyOf Tryz.prog 3 (.int .i64 c) = some (.int .i64 c) := keyOf_int_mk Tryz.underlying3 (WalkArith.wf_i64 hc)
/-- such a map in memory -/
def Mc (t : List Int) (B : Nat) (w : World) : Prop := ∃ D : DataW Unit, w.ownsMap Tryz.prog 3 (plainElem Tryz.prog 3) B t.length D ∧ Cnt D t
section
variable {t : List Int} {B : Nat} {w w' : World}
theorem Mc.lt (h : Mc t B w) : B < w.heap.size := by obtain ⟨D, hm, _⟩ := h; exact hm.lt
theorem Mc.keep (h : Mc t B w) (hb : w'.heap[B]? = w.heap[B]?) : Mc t B w' := by
  obtain ⟨D, ⟨es, clock, hm, r⟩, hd⟩ := h
  exact ⟨D, ⟨es, clock, hb.trans hm, r⟩, hd⟩
theorem Mc.low (h : Mc t B w) (hb : Below w.heap.size w w') : Mc t B w' := h.keep (hb.block B h.lt)
theorem Mc.look (h : Mc t B w) {c : Int} (hc : w64 c) : (Instr.lookup 281 (.map (some B)) (.int .i64 c) false).run Tryz.prog w = .ok (.int .i64 (t.count c : Nat)) w := by
  obtain ⟨D, hm, hd⟩ := h
  obtain ⟨d, hr, e, _⟩ := hm.lookup_int hKeyed Tryz.underlying281 Tryz.underlying3 (hZero w) (hKey hc)
  rw [hd.at_] at e
  cases e
  exact hr
theorem Mc.store (h : Mc t B w) {a : Int} (ha : w64 a) (hl : t.length ≤ 1099511627776) (z : Int) (hz : z = (t.count a : Nat) + 1) :
    ∃ w', (Instr.mapUpdate 281 (.map (some B)) (.int .i64 a) (.int .i64 z)).run Tryz.prog w = .ok () w' ∧ Mc (t ++ [a]) B w' ∧ w.grownBy w' (some B) := by
  obtain ⟨D, hm, hd⟩ := h
  have hcl : t.count a ≤ t.length := List.count_le_length
  obtain ⟨w', hr, ho, ht⟩ := hm.store (val := .int .i64 z) hKeyed Tryz.underlying281 (by unfold maxLen; omega) (hKey ha) (plainElem_int Tryz.underlying3 (WalkArith.wf_i64 (by omega)))
  exact ⟨w', hr, ⟨_, by simpa using ho, by subst hz; exact hd.put a⟩, ht.grown⟩
end

end Go.Proofs.YtgiojkhmkeocfaaGreatDoor

/- Where the rarest classes stand: places and partners, walked. -/
set_option maxRecDepth 20000
namespace Go.Proofs.YtgiojkhmkeocfaaGreatDoor
open Go.RowKit Go.Maps

/-- where a class stands in t, if it stands R times in x -/
def pl (x : List Int) (R : Nat) (t : List Int) (c : Int) : List Nat := if x.count c = R then (List.range t.length).filter (fun j => decide (t[j]? = some c)) else []
theorem pl_snoc (x : List Int) (R : Nat) (t : List Int) (a c : Int) : pl x R (t ++ [a]) c = if x.count a = R ∧ a = c then pl x R t c ++ [t.length] else pl x R t c := by
  unfold pl
  have hf : ((List.range t.length).filter fun j => decide ((t ++ [a])[j]? = some c)) = (List.range t.length).filter fun j => decide (t[j]? = some c) := by
    apply List.filter_congr
    intro j hj
    rw [List.mem_range] at hj
    rw [List.getElem?_append_left hj]
  by_cases h : x.count c = R
  · rw [if_pos h, if_pos h, List.length_append, List.length_singleton, List.range_succ, List.filter_append, hf]
    by_cases e : a = c
    · subst e
      rw [if_pos ⟨h, rfl⟩]
      congr 1
      simp
    · rw [if_neg (fun q => e q.2)]
      have : ([t.length].filter fun j => decide ((t ++ [a])[j]? = some c)) = [] := by simp [e]
      rw [this, List.append_nil]
  · rw [if_neg h, if_neg h]
    by_cases e : a = c
    · subst e
      rw [if_neg (fun q => h q.1)]
    · rw [if_neg (fun q => e q.2)]
theorem pl_nil (x : List Int) (R : Nat) (c : Int) : pl x R [] c = [] := by simp [pl]
/-- a list of places as numbers -/
def nI (l : List Nat) : List Int := l.map fun (n : Nat) => (n : Int)
theorem nI_append (a b : List Nat) : nI (a ++ b) = nI a ++ nI b := by simp [nI]
/-- a map that tells where the classes stand -/
structure Gd (D : DataW Unit) (f : Int → List Nat) : Prop where
  tidy : IsMap D
  at_ : ∀ c, D.atKey (.int .i64 c) .nil = if f c = [] then .nil else .slice (ChangeShapes.lits .i64 (nI (f c))) []
theorem lits_inj {a b : List Int} (h : ChangeShapes.lits (H := Unit) .i64 a = ChangeShapes.lits .i64 b) : a = b := by
  unfold ChangeShapes.lits at h
  exact (List.map_inj_right (fun u v huv => by cases huv; rfl)).1 h
theorem Gd.zs {D : DataW Unit} {f : Int → List Nat} (h : Gd D f) {w : World} {base : Nat} {e : TypeId} {v : Value} {zs : List Int} {c : Int} (ho : w.ownsInts base e .i64 v zs) (ha : D.atKey (.int .i64 c) .nil = rowDatum .i64 v zs) : zs = nI (f c) := by
  rw [h.at_] at ha
  rcases ho.datum (H := Unit) with ⟨h1, h2⟩ | h1
  · rw [h1] at ha
    by_cases e : f c = []
    · rw [h2, e]; rfl
    · rw [if_neg e] at ha; cases ha
  · rw [h1] at ha
    by_cases e : f c = []
    · rw [if_pos e] at ha; cases ha
    · rw [if_neg e] at ha
      injection ha with ha
      exact (lits_inj ha).symm
theorem Gd.nil (x : List Int) (R : Nat) : Gd (.map []) (pl x R []) := ⟨isMap_empty, fun c => by rw [atKey_of_not_has rfl, if_pos (pl_nil x R c)]⟩
theorem Gd.put {D : DataW Unit} {x : List Int} {R : Nat} {t : List Int} (h : Gd D (pl x R t)) {a : Int} (ha : x.count a = R) : Gd (D.put (.int .i64 a) (.slice (ChangeShapes.lits .i64 (nI (pl x R t a) ++ [(t.length : Int)])) [])) (pl x R (t ++ [a])) := by
  have hk : WideAt.IsKeyLit (.int .i64 a) := trivial
  have hne : ∀ {g : Int}, a ≠ g → (Lit.int .i64 g) ≠ .int .i64 a := fun hg e => hg (by cases e; rfl)
  refine ⟨h.tidy.put _ _, fun c => ?_⟩
  by_cases e : a = c
  · subst e
    have e2 : pl x R (t ++ [a]) a = pl x R t a ++ [t.length] := by rw [pl_snoc, if_pos ⟨ha, rfl⟩]
    rw [atKey_put_same h.tidy hk, e2, if_neg (by simp), nI_append]
    rfl
  · have e2 : pl x R (t ++ [a]) c = pl x R t c := by rw [pl_snoc, if_neg (fun q => e q.2)]
    rw [atKey_put_other (hne e), h.at_, e2]
theorem Gd.skip {D : DataW Unit} {x : List Int} {R : Nat} {t : List Int} (h : Gd D (pl x R t)) {a : Int} (ha : x.count a ≠ R) : Gd D (pl x R (t ++ [a])) := by
  refine ⟨h.tidy, fun c => ?_⟩
  have e2 : pl x R (t ++ [a]) c = pl x R t c := by rw [pl_snoc, if_neg (fun q => ha q.1)]
  rw [e2]
  exact h.at_ c
/-- such a map in memory, with rows of its own -/
def Gm (x : List Int) (R : Nat) (t : List Int) (b base : Nat) (w : World) : Prop := ∃ m D, m ≤ t.length ∧ w.ownsGroups Tryz.prog 3 base 3 .i64 b m D ∧ Gd D (pl x R t)
theorem Gm.low {x : List Int} {R : Nat} {t : List Int} {b base : Nat} {w w' : World} (h : Gm x R t b base w) (hb : Below w.heap.size w w') : Gm x R t b base w' := by
  obtain ⟨m, D, h1, h2, h3⟩ := h
  exact ⟨m, D, h1, h2.kept (low_grown hb none) (by simp) (fun _ _ _ e _ => by cases e.val.ownBlock <;> simp), h3⟩
/-- rows of places, one for each member of x -/
def Prt (x y : List Int) (R base k : Nat) (vs : List Value) (w : World) : Prop := vs.length = x.length ∧ ∀ i, i < k → ∃ v, vs[i]? = some v ∧ w.ownsInts base 3 .i64 v (nI (pj x y R i))
/-- a row of rows is written: rows of numbers stay -/
theorem ints_other {w : World} {base : Nat} {v : Value} {zs : List Int} (h : w.ownsInts base 3 .i64 v zs) {g : Nat} {cs : Array Value} {fz : Nat × Nat} (hg : w.heap[g]? = some (.cells cs 71 fz)) (j : Nat) (u : Value) : (w.setCell ⟨g, j, none⟩ u).ownsInts base 3 .i64 v zs := by
  refine h.kept (grown_set w g j u) ?_
  rcases h.1.2 with ⟨rfl, _⟩ | ⟨g', cap, cur, rfl, _, h2, _⟩
  · exact .inl rfl
  · right
    intro e
    simp [Value.ownBlock] at e
    subst e
    rw [h2] at hg
    cases hg
theorem Prt.set {x y : List Int} {R base k : Nat} {vs : List Value} {w : World} (h : Prt x y R base k vs w) (hk : k < x.length) {g : Nat} {cs : Array Value} {fz : Nat × Nat} (hg : w.heap[g]? = some (.cells cs 71 fz)) {v : Value} (hv : w.ownsInts base 3 .i64 v (nI (pj x y R k))) : Prt x y R base (k + 1) (vs.set k v) (w.setCell ⟨g, k, none⟩ v) := by
  refine ⟨by rw [List.length_set]; exact h.1, fun i hi => ?_⟩
  by_cases e : i = k
  · subst e
    exact ⟨v, List.getElem?_set_self (by rw [h.1]; exact hk), ints_other hv hg _ _⟩
  · obtain ⟨u, h1, h2⟩ := h.2 i (by omega)
    exact ⟨u, by rw [List.getElem?_set_ne (fun q => e q.symm)]; exact h1, ints_other h2 hg _ _⟩
theorem Prt.low {x y : List Int} {R base k : Nat} {vs : List Value} {w w' : World} (h : Prt x y R base k vs w) (hb : Below w.heap.size w w') : Prt x y R base k vs w' :=
  ⟨h.1, fun i hi => by obtain ⟨v, h1, h2⟩ := h.2 i hi; exact ⟨v, h1, h2.kept (low_grown hb none) (by cases v.ownBlock <;> simp)⟩⟩
end Go.Proofs.YtgiojkhmkeocfaaGreatDoor

/- Small functions of the layer histogram: same, cmp.Compare, cmp.Or, outdoes, walked. -/
set_option maxRecDepth 20000
namespace Go.Proofs.YtgiojkhmkeocfaaGreatDoor
open Go.RowKit

end Go.Proofs.YtgiojkhmkeocfaaGreatDoor

/- Whether a run is rather held on to: outdoes, walked. -/
set_option maxRecDepth 20000
namespace Go.Proofs.YtgiojkhmkeocfaaGreatDoor
open Go.RowKit

def Hbx (u : World) (B : Nat) (r : Hr) : Prop := u.heap[B]? = some (.cells #[.int .i64 (r.X : Int), .int .i64 (r.Y : Int), .int .i64 (r.N : Int), .int .i64 (r.R : Int)] 286 (0, 0))
section
variable {u u' : World} {B : Nat} {r : Hr}
theorem Hbx.cells (h : Hbx u B r) : u.cell? ⟨B, 0, none⟩ = some (.int .i64 (r.X : Int)) ∧ u.cell? ⟨B, 1, none⟩ = some (.int .i64 (r.Y : Int)) ∧ u.cell? ⟨B, 2, none⟩ = some (.int .i64 (r.N : Int)) ∧ u.cell? ⟨B, 3, none⟩ = some (.int .i64 (r.R : Int)) := by
  refine ⟨?_, ?_, ?_, ?_⟩ <;> rw [Lib.cell_of_heap h] <;> rfl
theorem Hbx.frozen (h : Hbx u B r) (j : Nat) : u.frozen? ⟨B, j, none⟩ = false := by
  unfold World.frozen?
  rw [h]
  rfl
theorem Hbx.lt (h : Hbx u B r) : B < u.heap.size := (Array.getElem?_eq_some_iff.1 h).1
theorem Hbx.keep (h : Hbx u B r) {g : Option Nat} (hg : u.grownBy u' g) (hr : some B ≠ g) : Hbx u' B r := (hg.block B h.lt hr).trans h
theorem Hbx.low (h : Hbx u B r) (hg : Below u.heap.size u u') : Hbx u' B r := (hg.block B h.lt).trans h
theorem Hbx.new (w : World) (r : Hr) : Hbx (w.alloc (.cells #[.int .i64 (r.X : Int), .int .i64 (r.Y : Int), .int .i64 (r.N : Int), .int .i64 (r.R : Int)] 286)) w.heap.size r := _root_.Go.heap_alloc_new w _
end
end Go.Proofs.YtgiojkhmkeocfaaGreatDoor

/- Going back along a run: plain. Steps of a region, by their equations. -/
set_option maxRecDepth 20000
namespace Go.Proofs.YtgiojkhmkeocfaaGreatDoor
open Go.RowKit

theorem results_cell_tmp {P : Program} {fn : Func} {p q : Tmp} {ty : TypeId} (h : fn.results = #[.cell p ty, .tmp q]) (tmps : Array Value) (w : World) (g : Nat) (t : TypeId) (cs : Array Value) (fr : Nat × Nat) (d : TypeDesc)
    (hp : tmps.getD p undef = .pointer (some ⟨g, 0, none⟩)) (hg : w.heap[g]? = some (.cells cs t fr))
    (hu : P.underlying ty = some d) (hd : (match d with | .struct _ | .array _ _ => true | _ => false) = true) (hi : (P.info? ty).map (·.size) = some cs.size) :
    (results fn tmps).run P w = .ok (.tuple #[.agg cs, tmps.getD q undef]) w := by
  have hp' : tmps[p]?.getD undef = .pointer (some ⟨g, 0, none⟩) := by simpa using hp
  simp [results, h, hp', asAddr, run_loadVar_row w g t ty cs fr d hg hu hd hi]
end Go.Proofs.YtgiojkhmkeocfaaGreatDoor

/- The run to hold on to: Best, walked. -/
set_option maxRecDepth 20000
namespace Go.Proofs.YtgiojkhmkeocfaaGreatDoor
open Go.RowKit

/-- as it was, or the run is noted -/
def Sx (Wq : World) (Br X Y N R : Nat) (u : World) : Prop := Low Wq u ∨ (Hbx u Br ⟨X, Y, N, R⟩ ∧ Wq.grownBy u (some Br))
theorem Sx.x {Wq : World} {Br X Y N R : Nat} {u : World} (h : Sx Wq Br X Y N R u) (hb : Hbx Wq Br ⟨X, Y, 0, R⟩) : u.cell? ⟨Br, 0, none⟩ = some (.int .i64 (X : Int)) := by
  rcases h with h | h
  · exact (hb.low h).cells.1
  · exact h.1.cells.1
end Go.Proofs.YtgiojkhmkeocfaaGreatDoor

/- histogram.find and histogram.Diff, walked. -/
set_option maxRecDepth 20000
namespace Go.Proofs.YtgiojkhmkeocfaaGreatDoor
open Go.RowKit

end Go.Proofs.YtgiojkhmkeocfaaGreatDoor

/- Rows of runs as cells; the reference's times and Runs, walked. -/
set_option maxRecDepth 20000
namespace Go.Proofs.YtgiojkhmkeocfaaGreatDoor
open Go.RowKit

/-- a run as cells -/
def hrC (r : Hr) : List Value := [.int .i64 (r.X : Int), .int .i64 (r.Y : Int), .int .i64 (r.N : Int), .int .i64 (r.R : Int)]
def hrcells (l : List Hr) : List Value := l.flatMap hrC
theorem hrcells_length (l : List Hr) : (hrcells l).length = l.length * 4 := by
  induction l with
  | nil => rfl
  | cons c l ih => simp only [hrcells, List.flatMap_cons, List.length_append, List.length_cons] at ih ⊢; rw [ih]; simp [hrC]; omega
theorem hrcells_at (l : List Hr) (k : Nat) (hk : k < l.length) : (hrcells l)[4 * k]? = some (.int .i64 (l[k].X : Int)) ∧ (hrcells l)[4 * k + 1]? = some (.int .i64 (l[k].Y : Int)) ∧ (hrcells l)[4 * k + 2]? = some (.int .i64 (l[k].N : Int)) ∧ (hrcells l)[4 * k + 3]? = some (.int .i64 (l[k].R : Int)) := by
  induction l generalizing k with
  | nil => simp at hk
  | cons c l ih =>
    cases k with
    | zero => simp [hrcells, hrC]
    | succ k =>
      have h := ih k (by simpa using hk)
      have e : ∀ i, (hrcells (c :: l))[4 * (k + 1) + i]? = (hrcells l)[4 * k + i]? := by
        intro i
        have : hrcells (c :: l) = hrC c ++ hrcells l := rfl
        rw [this, List.getElem?_append_right (by simp [hrC]; omega)]
        congr 1
        simp [hrC]; omega
      simp only [List.getElem_cons_succ]
      refine ⟨by rw [← (h).1]; exact e 0, by rw [← h.2.1]; exact e 1, by rw [← h.2.2.1]; exact e 2, by rw [← h.2.2.2]; exact e 3⟩
/-- what a slice of runs holds -/
def HHr (w : World) (v : Value) (l : List Hr) : Prop := Holds w v l.length (hrcells l)
theorem HHr.keep {w w' : World} {v : Value} {l : List Hr} (h : HHr w v l) {N : Nat} (hk : Below N w w') (hN : w.heap.size ≤ N) : HHr w' v l := Holds.keep h fun k hk' => hk.block k (by omega)
theorem HHr.at {w : World} {ao : Option Addr} {n c : Nat} {l : List Hr} (h : HHr w (.slice ao n c) l) (h0 : 0 < l.length) : ∃ b off, ao = some ⟨b, off, none⟩ ∧ b < w.heap.size ∧
    ∀ k (hk : k < l.length), w.cell? ⟨b, off + k * 4, none⟩ = some (.int .i64 (l[k].X : Int)) ∧ w.cell? ⟨b, off + k * 4 + 1, none⟩ = some (.int .i64 (l[k].Y : Int)) ∧ w.cell? ⟨b, off + k * 4 + 2, none⟩ = some (.int .i64 (l[k].N : Int)) ∧ w.cell? ⟨b, off + k * 4 + 3, none⟩ = some (.int .i64 (l[k].R : Int)) := by
  obtain ⟨b, off, c', hv, hb, hc⟩ := Holds.at h (by rw [hrcells_length]; omega)
  cases hv
  refine ⟨b, off, rfl, hb, fun k hk => ?_⟩
  obtain ⟨h0, h1, h2, h3⟩ := hrcells_at l k hk
  have hlen := hrcells_length l
  have e : k * 4 = 4 * k := by omega
  rw [e]
  refine ⟨?_, ?_, ?_, ?_⟩
  · have := hc (4 * k) (by omega)
    rw [← h0, this, List.getElem?_eq_getElem]
  · have := hc (4 * k + 1) (by omega)
    rw [← h1, Nat.add_assoc, this, List.getElem?_eq_getElem]
  · have := hc (4 * k + 2) (by omega)
    rw [← h2, Nat.add_assoc, this, List.getElem?_eq_getElem]
  · have := hc (4 * k + 3) (by omega)
    rw [← h3, Nat.add_assoc, this, List.getElem?_eq_getElem]
section
variable {u u' : World} {B : Nat} {r : Hr}
end

end Go.Proofs.YtgiojkhmkeocfaaGreatDoor

/- The reference's Runs, walked. -/
set_option maxRecDepth 20000
namespace Go.Proofs.YtgiojkhmkeocfaaGreatDoor
open Go.RowKit
attribute [local simp] low_drew

end Go.Proofs.YtgiojkhmkeocfaaGreatDoor

/- The reference's Best, walked. -/
set_option maxRecDepth 20000
namespace Go.Proofs.YtgiojkhmkeocfaaGreatDoor
open Go.RowKit

end Go.Proofs.YtgiojkhmkeocfaaGreatDoor

/- The reference's piece and Diff of the layer histogram, walked. -/
set_option maxRecDepth 20000
namespace Go.Proofs.YtgiojkhmkeocfaaGreatDoor
open Go.RowKit
attribute [local simp] low_drew

end Go.Proofs.YtgiojkhmkeocfaaGreatDoor

/- The reference's Diff of the layer histogram, walked. -/
set_option maxRecDepth 20000
namespace Go.Proofs.YtgiojkhmkeocfaaGreatDoor
open Go.RowKit

end Go.Proofs.YtgiojkhmkeocfaaGreatDoor

/- speedy.Greedy, walked. -/
set_option maxRecDepth 20000
namespace Go.Proofs.YtgiojkhmkeocfaaGreatDoor
open Go.RowKit

/-- what is written down of what Greedy keeps -/
def Gw (y : List Int) (far : Int) (G : List Int) (n : Nat) (x : List Int) (i nx : Nat) (Z : List Int) : Prop := Z.length = n ∧ Z.take i ++ gdy y far nx x = G
theorem Gw.hit {y : List Int} {far : Int} {G : List Int} {n i nx j : Nat} {c : Int} {x Z : List Int} (h : Gw y far G n (c :: x) i nx Z) (hi : i < n) (hj : gdn c y nx far = some j) : Gw y far G n x (i + 1) (j + 1) (Z.set i (j : Int)) := by
  refine ⟨by rw [List.length_set]; exact h.1, ?_⟩
  rw [← h.2, gdy, hj, List.take_add_one, List.getElem?_set_self (by rw [h.1]; exact hi)]
  rw [List.take_set_of_le (Nat.le_refl _)]
  simp
end Go.Proofs.YtgiojkhmkeocfaaGreatDoor

/- speedy.Diff's closure, and Diff, walked. -/
set_option maxRecDepth 20000
namespace Go.Proofs.YtgiojkhmkeocfaaGreatDoor
open Go.RowKit

end Go.Proofs.YtgiojkhmkeocfaaGreatDoor

/- Greedy from the last place down, as the reference goes: plain. -/
set_option maxRecDepth 20000
namespace Go.Proofs.YtgiojkhmkeocfaaGreatDoor

end Go.Proofs.YtgiojkhmkeocfaaGreatDoor

/- The reference's Greedy, walked. -/
set_option maxRecDepth 20000
namespace Go.Proofs.YtgiojkhmkeocfaaGreatDoor
open Go.RowKit

end Go.Proofs.YtgiojkhmkeocfaaGreatDoor

/- The reference's Diff of layer 9, walked. -/
set_option maxRecDepth 20000
namespace Go.Proofs.YtgiojkhmkeocfaaGreatDoor
open Go.RowKit
attribute [local simp] low_drew

end Go.Proofs.YtgiojkhmkeocfaaGreatDoor
