/-
  Texts that belong together, joined: EdOwn, EdKeep, EdWalk, EdDrew, EdRChk, EdReg, EdApp, HuRow, HuRf1, HuRf2, HuRf3, PcReg, HuRf4, HuRf5, HuRf6, HuRf7, PcLs, HuOwn, HuC1, EdSameS, EdRApp, EdOpen, EdOpenS, EfAp.
-/
import Derived.Test.YtkmgblnofapccaaDoorPartA2
import Derived.Deep.RegionHeld3
import Derived.Test.YtkmgblnofapccaaDoorPartA1
import Derived.Deep.CutRange
import Derived.Deep.DeepCutAuto
import Derived.Laws.Rows
import Derived.Test.YtkmgblnofapccaaDoorRows
import Derived.Test.YtkmgblnofapccaaDoorChecked
import Derived.ProofKit
import Derived.OpenShut
import Derived.ShutString
import Derived.ChangeOld
import Derived.Below
import Derived.SliceStrings
import Derived.ChangeSlices
import Derived.Deep.Slices
import Derived.Deep.SlicePairs
import Derived.JoinedCond

/- A row of the caller's own, in a box, within a range over the iterator. -/
namespace Go.Proofs.YtkmgblnofapccaaDoor
open Go.RowKit Go.Shelf
attribute [local go_sem] Oper.semAt_some

theorem wpListIn_append_h {F : Fence} {n : Nat} (w : World) {ops : Array Oper} {rest : List Oper} {o : Oper} {a : Act} {Q : Exit → Act → World → Prop}
    (hg : o.guard = none) (s x : Operand) (T E : TypeId) (ho : o.op = Op.call { callee := Callee.builtin Builtin.append, args := #[s, x], argTypes := #[T, T] })
    (z : Value) (size bytes : Nat) (hT : Tryd.prog.underlying T = some (.slice E)) (hinfo : (Tryd.prog.info? E).map (fun i => (i.zero, i.size, i.bytes)) = some (some z, size, bytes)) (hz1 : z.cells.size = size) (hsz : 0 < size) (hby : bytes ≤ 32)
    (base : Nat) (v : Value) (k : Nat) (xs : List Value) (hs : a.eval s = v) (hown : w.ownsRow base E size v k xs) (vx : Value) (m : Nat) (news : List Value) (hx : a.eval x = vx) (hh : Holds w vx m news) (hl : news.length = m * size)
    (h1 : ∀ u ∈ news, u.oneCell' = true) (hk : k + m ≤ 4398046511104) (hbase : base ≤ w.heap.size)
    (h : ∀ v' w', w'.ownsRow base E size v' (k + m) (xs ++ news) → w.grownBy w' v.ownBlock → (v'.ownBlock = v.ownBlock ∨ v'.ownBlock = some w.heap.size) → wpListIn F n Tryd.prog ops Q rest (a.put o.dst v') w') :
    wpListIn F n Tryd.prog ops Q (o :: rest) a w := by
  refine wpListIn_plain hg fun K hK' => ?_
  obtain ⟨i0, hi, hz0, hzs, hz2⟩ := info_parts hinfo
  have hrun : ∃ v' w', (Builtin.append_ #[T, T] o.type #[v, vx]).run Tryd.prog w = .ok v' w' ∧ w'.ownsRow base E size v' (k + m) (xs ++ news) ∧ w.grownBy w' v.ownBlock ∧ (v'.ownBlock = v.ownBlock ∨ v'.ownBlock = some w.heap.size) := by
    rcases hh with ⟨rfl, rfl, rfl⟩ | ⟨ad, c, rfl, _, hc⟩
    · exact ⟨v, w, run_append_owned_none (P := Tryd.prog) (w := w) base T o.type E i0 size hT hi v k xs hown, by simpa using hown, World.grownBy.refl _ _, .inl rfl⟩
    · obtain ⟨v', w', hr, h2, h3, _, h5⟩ := run_append_own_at (P := Tryd.prog) w base T o.type E i0 z size bytes hT hi hz0 hzs hz2 hz1 hsz v k xs hown ad m c news hl hc h1 (by unfold maxLen; omega) (by
        have : (k + m) * bytes ≤ (k + m) * 32 := Nat.mul_le_mul_left _ hby
        omega) hbase
      exact ⟨v', w', hr, h2, h3, h5⟩
  obtain ⟨v', w', hrun, r1, r2, r3⟩ := hrun
  unfold Oper.wpIn
  refine ⟨?_, ?_⟩
  · simp [Oper.about, ho, resolve, Target.leads, Sem.run_pure]
  · rw [Oper.semAt_plain F _ _ (by rw [ho]; intro c hc'; cases hc')]
    simp [execOp, ho, resolve, invoke, builtin, hs, hx, hrun, Result.andThen]
    exact hK' _ _ (h v' w' r1 r2 r3)

theorem new_holds (W : World) (cs : Array Value) (e : TypeId) (k c : Nat) (hkc : k ≤ c) : Holds (W.alloc (.cells cs e)) (.slice (some ⟨W.heap.size, 0, none⟩) k c) k cs.toList := by
  refine .inr ⟨_, _, rfl, hkc, fun j u hj => ?_⟩
  rw [add_none, Lib.cell_of_heap (_root_.Go.heap_alloc_new W _)]
  simpa using hj
/-- a row of the caller's own, in a box of his; the row lies apart from the iterator's boxes -/
structure OwnR (n₀ lo B : Nat) (t e : TypeId) (s : Nat) (v : Value) (k : Nat) (xs : List Value) (W : World) : Prop where
  box : Boxed W B t v
  row : W.ownsRow n₀ e s v k xs
  far : ∀ g, v.ownBlock = some g → g < lo ∨ lo + 3 ≤ g
section
variable {n₀ lo B : Nat} {t e : TypeId} {s : Nat} {v : Value} {k : Nat} {xs : List Value} {W : World}
theorem OwnR.alloc (h : OwnR n₀ lo B t e s v k xs W) (o : Obj) : OwnR n₀ lo B t e s v k xs (W.alloc o) := ⟨h.box.alloc o, h.row.alloc o, h.far⟩
theorem OwnR.appended {w1 : World} {v' : Value} {m : Nat} {ys : List Value} (h : OwnR n₀ lo B t e s v k xs W) (hte : t ≠ e) (htC : t ≠ 43) (heC : e ≠ 43) (hn : n₀ ≤ B) (hB : B < lo) (hsz : lo + 3 ≤ W.heap.size)
    (hown' : w1.ownsRow n₀ e s v' m ys) (hgrow : W.grownBy w1 v.ownBlock) (hp : v'.ownBlock = v.ownBlock ∨ v'.ownBlock = some W.heap.size) :
    Boxed w1 B t v ∧ OwnR n₀ lo B t e s v' m ys (w1.setCell ⟨B, 0, none⟩ v') ∧ KeepsOthers W (w1.setCell ⟨B, 0, none⟩ v') ∧ Kp n₀ lo W (w1.setCell ⟨B, 0, none⟩ v') ∧
      ∀ (j : Nat) (cs : Array Value) (u : TypeId), W.heap[j]? = some (Obj.cells cs u (0, 0)) → u ≠ t → u ≠ e → (w1.setCell ⟨B, 0, none⟩ v').heap[j]? = some (Obj.cells cs u (0, 0)) := by
  have hv1 : Boxed w1 B t v := h.box.kept hgrow (h.box.not_row hte h.row)
  have hset := grownBy_setCell' w1 B v'
  have hrow : ∀ j, v.ownBlock = some j → ∃ cur, W.heap[j]? = some (.cells cur e (0, 0)) ∧ n₀ ≤ j := by
    intro j ej
    rcases h.row.2 with ⟨rfl, _⟩ | ⟨g, cap, cur, rfl, hb, hgb, _⟩
    · simp [Value.ownBlock] at ej
    · obtain rfl : g = j := by simpa [Value.ownBlock] using ej
      exact ⟨cur, hgb, hb⟩
  have hall : ∀ (j : Nat) (cs : Array Value) (u : TypeId), W.heap[j]? = some (Obj.cells cs u (0, 0)) → u ≠ t → u ≠ e → (w1.setCell ⟨B, 0, none⟩ v').heap[j]? = some (Obj.cells cs u (0, 0)) := by
    intro j cs u hj hut hue
    have hlt := (Array.getElem?_eq_some_iff.1 hj).1
    have e1 : w1.heap[j]? = W.heap[j]? := hgrow.block j hlt (fun ej => by
      obtain ⟨cur, hc, _⟩ := hrow j ej.symm
      rw [hj] at hc
      cases hc
      exact hue rfl)
    refine (hset.block j (Nat.lt_of_lt_of_le hlt hgrow.size) (fun ej => ?_)).trans (e1.trans hj)
    cases ej
    have := h.box
    unfold Boxed at this
    rw [hj] at this
    cases this
    exact hut rfl
  refine ⟨hv1, ⟨hv1.set v', hown'.kept hset (.inr (hv1.not_row hte hown').symm), fun g hg => ?_⟩, ?_, ⟨?_, ?_, fun j cs hj => hall j cs _ hj (Ne.symm htC) (Ne.symm heC)⟩, hall⟩
  · rcases hp with hp | hp
    · exact h.far g (hp ▸ hg)
    · rw [hp] at hg
      cases hg
      exact .inr hsz
  · refine (KeepsOthers.of_grownBy hgrow fun j o ej hj => ?_).trans (KeepsOthers.setCell _ _ _)
    obtain ⟨cur, hc, _⟩ := hrow j ej
    rw [hc] at hj
    cases hj
    rfl
  · refine ((Below.refl n₀ W).grown hgrow (by omega) fun j ej => ?_).setCell (p := ⟨B, 0, none⟩) hn v'
    obtain ⟨_, _, h2⟩ := hrow j ej
    exact h2
  · intro j h1 h2
    have e1 : W.heap[j]? = w1.heap[j]? := (hgrow.block j (by omega) (fun ej => by have := h.far j ej.symm; omega)).symm
    rw [e1]
    exact hset.block j (Nat.lt_of_lt_of_le (by omega) hgrow.size) (fun ej => by cases ej; omega)
theorem boxes3 (u : World) (x y z : Value) (W0 : World) (h : ((u.alloc (.cells #[x] 22)).alloc (.cells #[y] 3)).alloc (.cells #[z] 3) = W0) :
    W0.heap.size = u.heap.size + 3 ∧ Boxed W0 u.heap.size 22 x ∧ Boxed W0 (u.heap.size + 1) 3 y ∧ Boxed W0 (u.heap.size + 1 + 1) 3 z ∧ Below u.heap.size u W0 := by
  subst h
  have b1 := Boxed.new (u.alloc (.cells #[x] 22)) 3 y
  have b2 := Boxed.new ((u.alloc (.cells #[x] 22)).alloc (.cells #[y] 3)) 3 z
  rw [World.size_alloc] at b1
  rw [World.size_alloc, World.size_alloc] at b2
  exact ⟨by simp, ((Boxed.new u 22 x).alloc _).alloc _, b1.alloc _, b2, (((Below.refl _ u).alloc (Nat.le_refl _) _).alloc (by simp) _).alloc (by simp; omega) _⟩
theorem ownR_own {β : Type} {A : Nat} {w0 : World} (hn : n₀ ≤ w0.heap.size) (hA : n₀ ≤ A) (kk : β → Nat) (f : β → List Value) : OwnFrom A (fun (x : β) W => (∃ v, OwnR n₀ lo B t e s v (kk x) (f x) W) ∧ Below n₀ w0 W) := by
  refine OwnFrom.and (Own.from ?_ _) (ownFrom_below hn hA)
  have := holdsRow_own (β := β) n₀ B t e s kk f (fun _ v => ∀ g, v.ownBlock = some g → g < lo ∨ lo + 3 ≤ g)
  intro x A B row hs hg hr
  obtain ⟨v, ⟨h1, h2, h3⟩⟩ := hs
  obtain ⟨v', q1, q2, q3⟩ := this x A B row ⟨v, h1, h2, h3⟩ hg hr
  exact ⟨v', q1, q2, q3⟩
end
end Go.Proofs.YtkmgblnofapccaaDoor

/- What a script keeps: the code's Keep, walked. -/
namespace Go.Proofs.YtkmgblnofapccaaDoor
open Go.RowKit Go.Shelf
attribute [local go_sem] Oper.semAt_some


/-- make([]T, 0, n) -/
theorem run_make0 {T E : TypeId} {z : Value} {bytes : Nat} (hT : Tryd.prog.underlying T = some (.slice E)) (hinfo : (Tryd.prog.info? E).map (fun i => (i.zero, i.size, i.bytes)) = some (some z, 1, bytes)) (hby : bytes ≤ 16) (N : Nat) (hN : N ≤ 1099511627776) (W : World) :
    (Instr.makeSlice T (.int .i64 0) (.int .i64 (N : Int))).run Tryd.prog W = .ok (.slice (some ⟨W.heap.size, 0, none⟩) 0 N) (W.alloc (.cells (madeCells z.cells N) E)) := by
  obtain ⟨i0, hi, hz0, hzs, hz2⟩ := info_parts hinfo
  have h1 : i0.bytes * N ≤ 16 * 1099511627776 := by rw [hz2]; exact Nat.mul_le_mul hby hN
  have hr := run_make (P := Tryd.prog) W T E i0 z hT hi hz0 .i64 .i64 0 (N : Int) (Int.le_refl _) (by omega) (by
    have : ((i0.bytes * N : Nat) : Int) ≤ 281474976710656 := by omega
    rwa [Int.natCast_mul] at this) (by omega)
  simpa [hzs] using hr
theorem row_made {E : TypeId} {z : Value} (N : Nat) (hN : N ≤ 1099511627776) (W : World) {base : Nat} (hb : base ≤ W.heap.size) : (W.alloc (.cells (madeCells z.cells N) E)).ownsRow base E 1 (.slice (some ⟨W.heap.size, 0, none⟩) 0 N) 0 [] := by
  have := World.ownsRow_made (size := 1) (e := E) W (madeCells z.cells N) N hb (by unfold maxLen; omega) (by rw [size_madeCells, Nat.mul_one])
  exact this

theorem pk_length {n m : Int} (hn : n ≤ 65536) (x : Pie n m) : (pk x.1).length ≤ 131072 := by
  obtain ⟨x, h1, h2, h3, h4, h5, h6, h7, h8, h9, h10⟩ := x
  simp [pk]
  omega
theorem pks_length {n m : Int} (hn : n ≤ 65536) (pre : List (Pie n m)) : (pre.flatMap fun x => pk x.1).length ≤ pre.length * 131072 := by
  induction pre with
  | nil => simp
  | cons x t ih => have := pk_length hn x; simp only [List.flatMap_cons, List.length_append, List.length_cons]; omega

end Go.Proofs.YtkmgblnofapccaaDoor

/- Laws for the plain walk: append onto an owned row of elements of whatever width, as a step of the walk and of a region that draws; Same of numbers, of changes. -/
namespace Go.Proofs.YtkmgblnofapccaaDoor
open Go.RowKit

theorem run_append_h (w : World) (T E ty : TypeId) (z : Value) (size bytes : Nat) (hT : Tryd.prog.underlying T = some (.slice E)) (hinfo : (Tryd.prog.info? E).map (fun i => (i.zero, i.size, i.bytes)) = some (some z, size, bytes)) (hz1 : z.cells.size = size) (hsz : 0 < size) (hby : bytes ≤ 32)
    (base : Nat) (v : Value) (k : Nat) (xs : List Value) (hown : w.ownsRow base E size v k xs) (vx : Value) (m : Nat) (news : List Value) (hh : Holds w vx m news) (hl : news.length = m * size)
    (h1 : ∀ u ∈ news, u.oneCell' = true) (hk : k + m ≤ 4398046511104) (hbase : base ≤ w.heap.size) :
    ∃ v' w', (Builtin.append_ #[T, T] ty #[v, vx]).run Tryd.prog w = .ok v' w' ∧ w'.ownsRow base E size v' (k + m) (xs ++ news) ∧ w.grownBy w' v.ownBlock ∧ (v'.ownBlock = v.ownBlock ∨ v'.ownBlock = some w.heap.size) := by
  obtain ⟨i0, hi0, hz0, hzs, hz2⟩ := info_parts hinfo
  rcases hh with ⟨rfl, rfl, rfl⟩ | ⟨ad, c, rfl, _, hc⟩
  · exact ⟨v, w, run_append_owned_none (P := Tryd.prog) (w := w) base T ty E i0 size hT hi0 v k xs hown, by simpa using hown, World.grownBy.refl _ _, .inl rfl⟩
  · obtain ⟨v', w', hr, h2, h3, _, h5⟩ := run_append_own_at (P := Tryd.prog) w base T ty E i0 z size bytes hT hi0 hz0 hzs hz2 hz1 hsz v k xs hown ad m c news hl hc h1 (by unfold maxLen; omega) (by
      have : (k + m) * bytes ≤ (k + m) * 32 := Nat.mul_le_mul_left _ hby
      omega) hbase
    exact ⟨v', w', hr, h2, h3, h5⟩

theorem wpList_append_h {ops : Array Oper} {rest : List Oper} {o : Oper} {a : Act} {Q : Exit → Act → World → Prop} (w : World) (hw : Region.wanted o (yielded ops a.tmps) = true) (s x : Operand) (T E : TypeId) (z : Value) (size bytes : Nat)
    (ho : o.op = .call { callee := .builtin .append, args := #[s, x], argTypes := #[T, T] }) (hT : Tryd.prog.underlying T = some (.slice E)) (hinfo : (Tryd.prog.info? E).map (fun i => (i.zero, i.size, i.bytes)) = some (some z, size, bytes)) (hz1 : z.cells.size = size) (hsz : 0 < size) (hby : bytes ≤ 32)
    (base : Nat) (v : Value) (k : Nat) (xs : List Value) (hs : a.eval s = v) (hown : w.ownsRow base E size v k xs) (vx : Value) (m : Nat) (news : List Value) (hx : a.eval x = vx) (hh : Holds w vx m news) (hl : news.length = m * size)
    (h1 : ∀ u ∈ news, u.oneCell' = true) (hk : k + m ≤ 4398046511104) (hbase : base ≤ w.heap.size)
    (h : ∀ v' w', w'.ownsRow base E size v' (k + m) (xs ++ news) → w.grownBy w' v.ownBlock → wpList Tryd.prog ops Q rest (a.put o.dst v') w') : wpList Tryd.prog ops Q (o :: rest) a w := by
  refine wpList_step fun K hK => ?_
  rw [if_pos hw]
  obtain ⟨v', w', hr, h2, h3, _⟩ := run_append_h w T E o.type z size bytes hT hinfo hz1 hsz hby base v k xs hown vx m news hh hl h1 hk hbase
  unfold Oper.wp
  simp [execOp, ho, resolve, invoke, builtin, hs, hx, hr, Result.andThen]
  exact hK _ _ (h v' w' h2 h3)

theorem step_append_h {ops : Array Oper} {o : Oper} {a : Act} {K : Act → World → Prop} {Q : Exit → Act → World → Prop} {X : Prop} (w : World) (hgd : o.guard = none) (s x : Operand) (T E : TypeId) (z : Value) (size bytes : Nat)
    (ho : o.op = .call { callee := .builtin .append, args := #[s, x], argTypes := #[T, T] }) (hT : Tryd.prog.underlying T = some (.slice E)) (hinfo : (Tryd.prog.info? E).map (fun i => (i.zero, i.size, i.bytes)) = some (some z, size, bytes)) (hz1 : z.cells.size = size) (hsz : 0 < size) (hby : bytes ≤ 32)
    (base : Nat) (v : Value) (k : Nat) (xs : List Value) (hs : a.eval s = v) (hown : w.ownsRow base E size v k xs) (vx : Value) (m : Nat) (news : List Value) (hx : a.eval x = vx) (hh : Holds w vx m news) (hl : news.length = m * size)
    (h1 : ∀ u ∈ news, u.oneCell' = true) (hk : k + m ≤ 4398046511104) (hbase : base ≤ w.heap.size)
    (h : ∀ v' w', w'.ownsRow base E size v' (k + m) (xs ++ news) → w.grownBy w' v.ownBlock → K (a.put o.dst v') w') :
    if Region.wanted o (yielded ops a.tmps) = true then Oper.wp Tryd.prog o a w K Q else X := by
  have hw : Region.wanted o (yielded ops a.tmps) = true := by simp [Region.wanted, hgd]
  rw [if_pos hw]
  obtain ⟨v', w', hr, h2, h3, _⟩ := run_append_h w T E o.type z size bytes hT hinfo hz1 hsz hby base v k xs hown vx m news hh hl h1 hk hbase
  unfold Oper.wp
  simp [execOp, ho, resolve, invoke, builtin, hs, hx, hr, Result.andThen]
  exact h v' w' h2 h3

/-- a new empty row -/
theorem nil_row_new {e : TypeId} {s : Nat} (W : World) (N g : Nat) (hg : W.heap.size = g) (hB : N ≤ g) : (W.alloc (.cells #[] e)).ownsRow N e s (.slice (some ⟨g, 0, none⟩) 0 0) 0 [] := by
  subst hg
  exact ⟨by simp, .inr ⟨_, 0, #[], rfl, hB, _root_.Go.heap_alloc_new W _, Nat.le_refl _, by decide, by simp, by simp⟩⟩
theorem owns_keep {w w' : World} {base : Nat} {e : TypeId} {s : Nat} {v : Value} {n : Nat} {xs : List Value} (h : w.ownsRow base e s v n xs) (hk : Below w.heap.size w w') : w'.ownsRow base e s v n xs := by
  refine ⟨h.1, ?_⟩
  rcases h.2 with h1 | ⟨g, cap, cur, q1, q2, q3, q4⟩
  · exact .inl h1
  · exact .inr ⟨g, cap, cur, q1, q2, (hk.block g (Array.getElem?_eq_some_iff.1 q3).1).trans q3, q4⟩
theorem owns_ge {w : World} {base : Nat} {e : TypeId} {s : Nat} {v : Value} {n : Nat} {xs : List Value} (h : w.ownsRow base e s v n xs) {j : Nat} (hj : v.ownBlock = some j) : base ≤ j := by
  rcases h.2 with ⟨rfl, _⟩ | ⟨g, cap, cur, rfl, hb, _⟩
  · cases hj
  · simp [Value.ownBlock] at hj; omega

/-- all ahead of a call as it was -/
def Low (W w : World) : Prop := Below W.heap.size W w
theorem low_drew (W w : World) : Low W w.drew ↔ Low W w := ⟨fun h => ⟨h.os, h.tape, h.output, h.size, h.block⟩, fun h => Below.dN h 1⟩
theorem low_alloc {W w : World} (o : Obj) (h : Low W w) : Low W (w.alloc o) := Below.alloc h (Below.size h) o
theorem Low.ch {W w : World} (h : Low W w) {b off n c : Nat} {l : List Ch} (hl : HCh W (.slice (some ⟨b, off, none⟩) n c) l) (k : Nat) (hk : k < l.length) {x : Ch} (hx : l[k] = x) : w.cell? ⟨b, off + k * 4, none⟩ = some (.int .i64 x.A) ∧ w.cell? ⟨b, off + k * 4 + 1, none⟩ = some (.int .i64 x.AN) ∧ w.cell? ⟨b, off + k * 4 + 2, none⟩ = some (.int .i64 x.B) ∧ w.cell? ⟨b, off + k * 4 + 3, none⟩ = some (.int .i64 x.BN) := by
  obtain ⟨b', off', e, _, hc⟩ := HCh.at (HCh.keep hl h (Nat.le_refl _)) (by omega)
  cases e
  rw [← hx]
  exact hc k hk
/-- a row of one's own, and all ahead of a call as it was -/
structure St (W : World) (e : TypeId) (s : Nat) (v : Value) (k : Nat) (xs : List Value) (w : World) : Prop where
  own : w.ownsRow W.heap.size e s v k xs
  low : Below W.heap.size W w
theorem st_drew (W : World) (e : TypeId) (s : Nat) (v : Value) (k : Nat) (xs : List Value) (w : World) : St W e s v k xs w.drew ↔ St W e s v k xs w :=
  ⟨fun h => ⟨h.own, ⟨h.low.os, h.low.tape, h.low.output, h.low.size, h.low.block⟩⟩, fun h => ⟨h.own, Below.dN h.low 1⟩⟩
theorem st_alloc {W : World} {e : TypeId} {s : Nat} {v : Value} {k : Nat} {xs : List Value} {w : World} (o : Obj) (h : St W e s v k xs w) : St W e s v k xs (w.alloc o) := ⟨h.own.alloc o, h.low.alloc h.low.size o⟩
theorem St.grown {W : World} {e : TypeId} {s : Nat} {v v' : Value} {k k' : Nat} {xs xs' : List Value} {w w' : World} (h : St W e s v k xs w) (ho : w'.ownsRow W.heap.size e s v' k' xs') (hg : w.grownBy w' v.ownBlock) : St W e s v' k' xs' w' :=
  ⟨ho, h.low.grown hg h.low.size (fun _ hj => owns_ge h.own hj)⟩

end Go.Proofs.YtkmgblnofapccaaDoor

/- Worlds behind a draw: new rows and what is carried. -/
namespace Go.Proofs.YtkmgblnofapccaaDoor
open Go.RowKit
attribute [local simp] low_drew

theorem new_holds_d (W : World) (cs : Array Value) (e : TypeId) (k c : Nat) (hkc : k ≤ c) : Holds (W.alloc (.cells cs e)).drew (.slice (some ⟨W.heap.size, 0, none⟩) k c) k cs.toList := by
  have := new_holds W cs e k c hkc
  exact this
theorem st_d {W : World} {e : TypeId} {s : Nat} {v : Value} {k : Nat} {xs : List Value} {w : World} (o : Obj) (h : St W e s v k xs w) : St W e s v k xs (w.alloc o).drew := (st_drew _ _ _ _ _ _ _).2 (st_alloc o h)
theorem alloc_second (w : World) (o o2 : Obj) : ((w.alloc o).alloc o2).heap[w.heap.size + 1]? = some o2 := by
  have h := _root_.Go.heap_alloc_new (w.alloc o) o2
  rw [World.size_alloc] at h
  exact h
theorem owns_d {W : World} {base : Nat} {e : TypeId} {s : Nat} {v : Value} {n : Nat} {xs : List Value} (h : W.ownsRow base e s v n xs) (o : Obj) : (W.alloc o).drew.ownsRow base e s v n xs := by
  have := h.alloc o
  exact this
end Go.Proofs.YtkmgblnofapccaaDoor

/- Which lists of changes are edit scripts: the reference's Check, walked. -/
namespace Go.Proofs.YtkmgblnofapccaaDoor
open Go.RowKit

theorem count_any (z : Int) (w : World) : Calls Tryd.prog 37 #[.int .i64 z] w fun e w' => e = .returned (.bool (nat31 z)) ∧ w' = w := by
  by_cases h0 : 0 ≤ z
  · by_cases h1 : z ≤ 2147483647
    · go_enter Tryd.func37, Tryd.ntmps37
      go_wp2
      go_ret
      simp [nat31, h0, h1]
    · go_enter Tryd.func37, Tryd.ntmps37
      go_wp2
      go_ret
      simp [nat31, h0, h1]
  · go_enter Tryd.func37, Tryd.ntmps37
    go_wp2
    go_ret
    have : ¬ 0 ≤ z := by omega
    simp [nat31, this]


set_option maxRecDepth 10000 in
set_option maxHeartbeats 4000000 in
theorem rCheck_f (l : List Ch) (n m r : Int) (v : Value) (w : World) (hl : HCh w v l) (hlen : l.length ≤ 1099511627776) (hn : n ≤ 9223372036854775807) (hm : m ≤ 9223372036854775807) (hr : Hid (chk l n m = r)) :
    Calls Tryd.prog 20 #[v, .int .i64 n, .int .i64 m] w fun e w' => e = .returned (.int .i64 r) ∧ Below w.heap.size w w' := by
  obtain ⟨ao, ca, rfl⟩ := Holds.form hl
  by_cases hn0 : n < 0
  · go_enter Tryd.func20, Tryd.ntmps20
    go_wp2
    go_ret
    refine ⟨ret_int ?_, Below.refl _ w⟩
    rw [← hr.out, chk_no (fun h => by have := h.1; omega)]
  by_cases hm0 : m < 0
  · go_enter Tryd.func20, Tryd.ntmps20
    go_wp2
    go_ret
    refine ⟨ret_int ?_, Below.refl _ w⟩
    rw [← hr.out, chk_no (fun h => by have := h.2.1; omega)]
  go_enter Tryd.func20, Tryd.ntmps20
  go_wp2
  go_loopw [7, 8, 9] (fun av bv iv wr => ∃ (k : Nat) (a b : Int), k ≤ l.length ∧ av = .int .i64 a ∧ bv = .int .i64 b ∧ iv = .int .i64 k ∧ 0 ≤ a ∧ a ≤ 4294967294 ∧ 0 ≤ b ∧ b ≤ 4294967294 ∧ Below w.heap.size w wr ∧ Hid (Script l n m ↔ Right (decide (k = 0)) a b n m (l.drop k))) (fun _ _ iv _ => l.length - (intOf iv).toNat)
  case atStart => exact ⟨0, 0, 0, Nat.zero_le _, rfl, rfl, rfl, by omega, by omega, by omega, by omega, Below.refl _ w, (by show _ ↔ _; simp only [Script, List.drop_zero, decide_true]; constructor; exact fun h => h.2.2; exact fun h => ⟨by omega, by omega, h⟩)⟩
  case round =>
    obtain ⟨k, a, b, hk, rfl, rfl, rfl, ha, han, hb, hbm, hB, hR⟩ := hrel
    by_cases hlt : k < l.length
    · obtain ⟨bk, off, rfl, hbk, hc⟩ := HCh.at (HCh.keep hl hB (Nat.le_refl _)) (by omega)
      obtain ⟨c0, c1, c2, c3⟩ := hc k hlt
      have hR' := hR.out
      rw [List.drop_eq_getElem_cons hlt] at hR'
      obtain ⟨c, hcd⟩ : ∃ c, l[k] = c := ⟨_, rfl⟩
      rw [hcd] at hR' c0 c1 c2 c3
      clear hc hcd hR
      have HR : Hid (Script l n m ↔ Right (decide (k = 0)) a b n m (c :: l.drop (k + 1))) := hR'
      clear hR'
      have i1 : 0 ≤ (k : Int) := by omega
      have i2 : (k : Int) < (l.length : Int) := by omega
      obtain ⟨A, AN, B, BN⟩ := c
      dsimp only at c0 c1 c2 c3
      have hsz := hB.size
      have hB2 : Below w.heap.size w (wr.alloc (Obj.cells #[Value.int IntKind.i64 A, Value.int IntKind.i64 AN, Value.int IntKind.i64 B, Value.int IntKind.i64 BN] 43)) := hB.alloc hsz _
      by_cases nA : nat31 A = true
      · by_cases nAN : nat31 AN = true
        · by_cases nB : nat31 B = true
          · by_cases nBN : nat31 BN = true
            · have pA : 0 ≤ A ∧ A ≤ 2147483647 := by simpa [nat31] using nA
              have pAN : 0 ≤ AN ∧ AN ≤ 2147483647 := by simpa [nat31] using nAN
              have pB : 0 ≤ B ∧ B ≤ 2147483647 := by simpa [nat31] using nB
              have pBN : 0 ≤ BN ∧ BN ≤ 2147483647 := by simpa [nat31] using nBN
              obtain ⟨pA0, pA1⟩ := pA
              obtain ⟨pAN0, pAN1⟩ := pAN
              obtain ⟨pB0, pB1⟩ := pB
              obtain ⟨pBN0, pBN1⟩ := pBN
              by_cases h0 : AN + BN = 0
              · go_wp2_with (go_at_call 37; refine (count_any _ _).mono ?_; rintro e w' ⟨rfl, rfl⟩)
                go_ret
                refine ⟨ret_int ?_, hB2⟩
                rw [← hr.out, chk_no]
                exact fun h => by obtain ⟨⟨q1, q2, q3, q4⟩, q5⟩ := HR.out.1 h; rw [numB_iff] at q1; dsimp only at q1; omega
              have HQ : Hid (numB ⟨A, AN, B, BN⟩ = true) := (by show _ = _; rw [numB_iff]; dsimp only; omega)
              by_cases h1 : A - a = B - b
              · by_cases h4 : A < a
                · go_wp2_with (go_at_call 37; refine (count_any _ _).mono ?_; rintro e w' ⟨rfl, rfl⟩)
                  go_ret
                  refine ⟨ret_int ?_, hB2⟩
                  rw [← hr.out, chk_no]
                  exact fun h => by obtain ⟨⟨q1, q2, q3, q4⟩, q5⟩ := HR.out.1 h; dsimp only at q3; omega
                by_cases h6 : 0 < (k : Int)
                · by_cases h5 : A = a
                  · subst h5
                    go_wp2_with (go_at_call 37; refine (count_any _ _).mono ?_; rintro e w' ⟨rfl, rfl⟩)
                    go_ret
                    refine ⟨ret_int ?_, hB2⟩
                    rw [← hr.out, chk_no]
                    exact fun h => by obtain ⟨⟨q1, q2, q3, q4⟩, q5⟩ := HR.out.1 h; rcases q4 with q4 | q4; (have := of_decide_eq_true q4; omega); (dsimp only at q4; omega)
                  · have h5a : a < A := by omega
                    have h5b : decide (A = a) = false := decide_eq_false h5
                    have h5c : (A == a) = false := by simpa using h5
                    go_wp2_with (go_at_call 37; refine (count_any _ _).mono ?_; rintro e w' ⟨rfl, rfl⟩)
                    go_roundw
                    case rel => exact ⟨k + 1, A + AN, B + BN, by omega, by go_num, by go_num, by go_num, by omega, by omega, by omega, by omega, hB2, (by
                      show _ ↔ _
                      refine HR.out.trans ?_
                      have : decide (k + 1 = 0) = false := by simp
                      rw [this]
                      exact ⟨fun h => h.2, fun h => ⟨⟨HQ.out, h1, by dsimp only; omega, .inr (by dsimp only; omega)⟩, h⟩⟩)⟩
                    case measure => simp [intOf]; omega
                · go_wp2_with (go_at_call 37; refine (count_any _ _).mono ?_; rintro e w' ⟨rfl, rfl⟩)
                  go_roundw
                  case rel => exact ⟨k + 1, A + AN, B + BN, by omega, by go_num, by go_num, by go_num, by omega, by omega, by omega, by omega, hB2, (by
                    show _ ↔ _
                    refine HR.out.trans ?_
                    have : decide (k + 1 = 0) = false := by simp
                    rw [this]
                    exact ⟨fun h => h.2, fun h => ⟨⟨HQ.out, h1, by dsimp only; omega, .inl (decide_eq_true (by omega))⟩, h⟩⟩)⟩
                  case measure => simp [intOf]; omega
              · go_wp2_with (go_at_call 37; refine (count_any _ _).mono ?_; rintro e w' ⟨rfl, rfl⟩)
                go_ret
                refine ⟨ret_int ?_, hB2⟩
                rw [← hr.out, chk_no]
                exact fun h => by obtain ⟨⟨q1, q2, q3, q4⟩, q5⟩ := HR.out.1 h; dsimp only at q2; omega
            · rw [Bool.not_eq_true] at nBN
              go_wp2_with (go_at_call 37; refine (count_any _ _).mono ?_; rintro e w' ⟨rfl, rfl⟩)
              go_ret
              refine ⟨ret_int ?_, hB2⟩
              rw [← hr.out, chk_no]
              exact fun h => by obtain ⟨⟨q1, q2, q3, q4⟩, q5⟩ := HR.out.1 h; rw [numB_iff] at q1; dsimp only at q1; simp [nat31] at nBN; omega
          · rw [Bool.not_eq_true] at nB
            go_wp2_with (go_at_call 37; refine (count_any _ _).mono ?_; rintro e w' ⟨rfl, rfl⟩)
            go_ret
            refine ⟨ret_int ?_, hB2⟩
            rw [← hr.out, chk_no]
            exact fun h => by obtain ⟨⟨q1, q2, q3, q4⟩, q5⟩ := HR.out.1 h; rw [numB_iff] at q1; dsimp only at q1; simp [nat31] at nB; omega
        · rw [Bool.not_eq_true] at nAN
          go_wp2_with (go_at_call 37; refine (count_any _ _).mono ?_; rintro e w' ⟨rfl, rfl⟩)
          go_ret
          refine ⟨ret_int ?_, hB2⟩
          rw [← hr.out, chk_no]
          exact fun h => by obtain ⟨⟨q1, q2, q3, q4⟩, q5⟩ := HR.out.1 h; rw [numB_iff] at q1; dsimp only at q1; simp [nat31] at nAN; omega
      · rw [Bool.not_eq_true] at nA
        go_wp2_with (go_at_call 37; refine (count_any _ _).mono ?_; rintro e w' ⟨rfl, rfl⟩)
        go_ret
        refine ⟨ret_int ?_, hB2⟩
        rw [← hr.out, chk_no]
        exact fun h => by obtain ⟨⟨q1, q2, q3, q4⟩, q5⟩ := HR.out.1 h; rw [numB_iff] at q1; dsimp only at q1; simp [nat31] at nA; omega
    · have hE := hR.out
      rw [List.drop_of_length_le (by omega)] at hE
      have HE : Hid (Script l n m ↔ a ≤ n ∧ b ≤ m ∧ n - a = m - b) := hE
      clear hE hR
      by_cases e1 : n < a
      · go_wp2
        go_ret
        refine ⟨ret_int ?_, hB⟩
        rw [← hr.out, chk_no]
        exact fun h => by have := HE.out.1 h; omega
      by_cases e2 : m < b
      · go_wp2
        go_ret
        refine ⟨ret_int ?_, hB⟩
        rw [← hr.out, chk_no]
        exact fun h => by have := HE.out.1 h; omega
      by_cases he : n - a = m - b
      · go_wp2
        go_ret
        refine ⟨ret_int ?_, hB⟩
        rw [← hr.out, chk_ok]
        exact HE.out.2 ⟨by omega, by omega, he⟩
      · go_wp2
        go_ret
        refine ⟨ret_int ?_, hB⟩
        rw [← hr.out, chk_no]
        exact fun h => he (HE.out.1 h).2.2
end Go.Proofs.YtkmgblnofapccaaDoor

/- A region that draws its order, in a round: ten operations that read, in whatever order, then the rest as the text has it. -/
namespace Go.Proofs.YtkmgblnofapccaaDoor
open Go.RowKit Go.Shelf
namespace R10

abbrev B10 := Fin 10 → Bool
def lst (b : B10) : Array Bool := #[b 0, b 1, b 2, b 3, b 4, b 5, b 6, b 7, b 8, b 9, false, false]
def upd (b : B10) (i : Fin 10) : B10 := fun j => if j = i then true else b j
def one (c : Bool) : Nat := if c then 1 else 0
def cnt (b : B10) : Nat := one (b 0) + one (b 1) + one (b 2) + one (b 3) + one (b 4) + one (b 5) + one (b 6) + one (b 7) + one (b 8) + one (b 9)
theorem lst_upd (b : B10) (i : Fin 10) : (lst b).setIfInBounds i.1 true = lst (upd b i) := by
  rcases i with ⟨i, hi⟩
  rcases (by omega : i = 0 ∨ i = 1 ∨ i = 2 ∨ i = 3 ∨ i = 4 ∨ i = 5 ∨ i = 6 ∨ i = 7 ∨ i = 8 ∨ i = 9) with rfl | rfl | rfl | rfl | rfl | rfl | rfl | rfl | rfl | rfl <;> simp [lst, upd]
theorem cnt_upd (b : B10) (i : Fin 10) (h : b i = false) : cnt (upd b i) = cnt b + 1 := by
  rcases i with ⟨i, hi⟩
  rcases (by omega : i = 0 ∨ i = 1 ∨ i = 2 ∨ i = 3 ∨ i = 4 ∨ i = 5 ∨ i = 6 ∨ i = 7 ∨ i = 8 ∨ i = 9) with rfl | rfl | rfl | rfl | rfl | rfl | rfl | rfl | rfl | rfl <;> (simp only [Fin.isValue, Fin.mk_zero, Fin.mk_one, Fin.reduceFinMk] at h; simp [cnt, upd, one, h]; try omega)
theorem one_le (c : Bool) : one c ≤ 1 := by cases c <;> simp [one]
theorem cnt_le (b : B10) : cnt b ≤ 10 := by
  have := fun i => one_le (b i)
  have h0 := this 0; have h1 := this 1; have h2 := this 2; have h3 := this 3; have h4 := this 4; have h5 := this 5; have h6 := this 6; have h7 := this 7; have h8 := this 8; have h9 := this 9
  unfold cnt
  omega

/-- which reads must lie ahead of one -/
def deps : Fin 10 → List (Fin 10)
  | 3 => [2]
  | 5 => [4]
  | 7 => [6]
  | 8 => [5, 7]
  | 9 => [1, 3, 8]
  | _ => []

/-- what lies ahead of a read that has come has come -/
def closedB (b : B10) : Bool := (List.finRange 10).all fun i => !(b i) || (deps i).all b
theorem closed_upd (b : B10) (i : Fin 10) (h : closedB b = true) (hd : ∀ j ∈ deps i, b j = true) : closedB (upd b i) = true := by
  simp only [closedB, List.all_eq_true, List.mem_finRange, Bool.or_eq_true, Bool.not_eq_true', forall_const] at h ⊢
  intro k
  have hup : ∀ j, b j = true → upd b i j = true := fun j hj => by unfold upd; split <;> simp_all
  by_cases hk : k = i
  · exact .inr fun j hj => hup j (hd j (hk ▸ hj))
  · rcases h k with h1 | h1
    · left
      unfold upd
      rw [if_neg hk]
      exact h1
    · exact .inr fun j hj => hup j (h1 j hj)
/-- what may come up next -/
def chkReady (ops : Array Oper) (b : B10) : Bool :=
  !(closedB b) || !(Region.ready .any ops (lst b)).isEmpty && (Region.ready .any ops (lst b)).all fun i =>
    if h : i < 10 then !(b ⟨i, h⟩) && (deps ⟨i, h⟩).all b else i == 10 && (List.finRange 10).all b

theorem any10 {F : Fence} {n : Nat} {P : Program} {ops : Array Oper} {Q : Exit → Act → World → Prop} {w : World} (act : B10 → Act)
    (hr : ∀ b, chkReady ops b = true)
    (hstep : ∀ (b : B10) (i : Fin 10), (∀ j ∈ deps i, b j = true) → ∀ K : Act → World → Prop, K (act (upd b i)) w → wpOpIn F n P ops Q i.1 K (act b) w)
    (hfin : wpOpIn F n P ops Q 10 (wpAnyIn F n P .any ops Q 1 #[true, true, true, true, true, true, true, true, true, true, true, false]) (act fun _ => true) w) :
    wpAnyIn F n P .any ops Q 12 (lst fun _ => false) (act fun _ => false) w := by
  have main : ∀ (fuel : Nat) (b : B10), closedB b = true → fuel + cnt b = 12 → wpAnyIn F n P .any ops Q fuel (lst b) (act b) w := by
    intro fuel
    induction fuel with
    | zero => intro b _ h; have := cnt_le b; omega
    | succ f ih =>
      intro b hcl h
      have hb := hr b
      unfold chkReady at hb
      rw [hcl] at hb
      simp only [Bool.not_true, Bool.false_or] at hb
      simp only [Bool.and_eq_true, List.all_eq_true] at hb
      refine ⟨fun h0 => ?_, fun i hi => ?_⟩
      · rw [h0] at hb
        simp at hb
      · have h1 := hb.2 i hi
        split at h1
        · rename_i hlt
          simp only [Bool.and_eq_true, Bool.not_eq_true', List.all_eq_true] at h1
          refine hstep b ⟨i, hlt⟩ h1.2 _ ?_
          have e := lst_upd b ⟨i, hlt⟩
          dsimp only at e
          rw [e]
          exact ih _ (closed_upd b ⟨i, hlt⟩ hcl h1.2) (by rw [cnt_upd b ⟨i, hlt⟩ h1.1]; omega)
        · simp only [Bool.and_eq_true, beq_iff_eq, List.all_eq_true, List.mem_finRange, forall_const] at h1
          obtain ⟨rfl, hall⟩ := h1
          obtain rfl : b = fun _ => true := funext hall
          obtain rfl : f = 1 := by
            have : cnt (fun _ => true) = 10 := rfl
            omega
          exact hfin
  exact main 12 _ rfl rfl

/-- a slot that an operation has written, or not yet -/
def pickV (c : Bool) (v : Value) : Value := cond c v undef
theorem pickV_true {c : Bool} (h : c = true) (v : Value) : pickV c v = v := by rw [h]; rfl
theorem wpOpIn_yield {F : Fence} {n : Nat} {P : Program} {ops : Array Oper} {Q : Exit → Act → World → Prop} {i : Nat} {o : Oper} {K : Act → World → Prop} {a : Act} {w : World} {v : Value} (ho : ops[i]? = some o) (hg : o.guard = none) (hnd : ∀ c, o.op ≠ .defer c)
    (hab : o.about P w a.eval = none) (hrun : (execOp a.eval o).run P w = .ok (.value v) w) (hK : K (a.put o.dst v) w) : wpOpIn F n P ops Q i K a w := by
  unfold wpOpIn
  simp only [ho]
  have hw : Region.wanted o (yielded ops a.tmps) = true := by simp [Region.wanted, hg]
  rw [if_pos hw]
  refine ⟨fun f hf => (by rw [hab] at hf; cases hf), ?_⟩
  rw [Oper.semAt_plain F _ _ hnd, hrun]
  exact hK
def mk10 (b0 b1 b2 b3 b4 b5 b6 b7 b8 b9 : Bool) : B10 := fun i => match i with
  | 0 => b0 | 1 => b1 | 2 => b2 | 3 => b3 | 4 => b4 | 5 => b5 | 6 => b6 | 7 => b7 | 8 => b8 | 9 => b9
theorem mk10_eta (b : B10) : b = mk10 (b 0) (b 1) (b 2) (b 3) (b 4) (b 5) (b 6) (b 7) (b 8) (b 9) := by
  funext ⟨i, hi⟩
  rcases (by omega : i = 0 ∨ i = 1 ∨ i = 2 ∨ i = 3 ∨ i = 4 ∨ i = 5 ∨ i = 6 ∨ i = 7 ∨ i = 8 ∨ i = 9) with rfl | rfl | rfl | rfl | rfl | rfl | rfl | rfl | rfl | rfl <;> rfl
theorem chk_all {ops : Array Oper} (h : ∀ b0 b1 b2 b3 b4 b5 b6 b7 b8 b9 : Bool, chkReady ops (mk10 b0 b1 b2 b3 b4 b5 b6 b7 b8 b9) = true) (b : B10) : chkReady ops b = true := by
  rw [mk10_eta b]
  exact h _ _ _ _ _ _ _ _ _ _

theorem wpOpIn_append_h {F : Fence} {n : Nat} (w : World) {ops : Array Oper} {i : Nat} {o : Oper} {a : Act} {K : Act → World → Prop} {Q : Exit → Act → World → Prop} (hi : ops[i]? = some o)
    (hg : o.guard = none) (s x : Operand) (T E : TypeId) (ho : o.op = Op.call { callee := Callee.builtin Builtin.append, args := #[s, x], argTypes := #[T, T] })
    (z : Value) (size bytes : Nat) (hT : Tryd.prog.underlying T = some (.slice E)) (hinfo : (Tryd.prog.info? E).map (fun i => (i.zero, i.size, i.bytes)) = some (some z, size, bytes)) (hz1 : z.cells.size = size) (hsz : 0 < size) (hby : bytes ≤ 32)
    (base : Nat) (v : Value) (k : Nat) (xs : List Value) (hs : a.eval s = v) (hown : w.ownsRow base E size v k xs) (vx : Value) (m : Nat) (news : List Value) (hx : a.eval x = vx) (hh : Holds w vx m news) (hl : news.length = m * size)
    (h1 : ∀ u ∈ news, u.oneCell' = true) (hk : k + m ≤ 4398046511104) (hbase : base ≤ w.heap.size)
    (h : ∀ v' w', w'.ownsRow base E size v' (k + m) (xs ++ news) → w.grownBy w' v.ownBlock → (v'.ownBlock = v.ownBlock ∨ v'.ownBlock = some w.heap.size) → K (a.put o.dst v') w') :
    wpOpIn F n Tryd.prog ops Q i K a w := by
  obtain ⟨i0, hi0, hz0, hzs, hz2⟩ := info_parts hinfo
  have hrun : ∃ v' w', (Builtin.append_ #[T, T] o.type #[v, vx]).run Tryd.prog w = .ok v' w' ∧ w'.ownsRow base E size v' (k + m) (xs ++ news) ∧ w.grownBy w' v.ownBlock ∧ (v'.ownBlock = v.ownBlock ∨ v'.ownBlock = some w.heap.size) := by
    rcases hh with ⟨rfl, rfl, rfl⟩ | ⟨ad, c, rfl, _, hc⟩
    · exact ⟨v, w, run_append_owned_none (P := Tryd.prog) (w := w) base T o.type E i0 size hT hi0 v k xs hown, by simpa using hown, World.grownBy.refl _ _, .inl rfl⟩
    · obtain ⟨v', w', hr, h2, h3, _, h5⟩ := run_append_own_at (P := Tryd.prog) w base T o.type E i0 z size bytes hT hi0 hz0 hzs hz2 hz1 hsz v k xs hown ad m c news hl hc h1 (by unfold maxLen; omega) (by
        have : (k + m) * bytes ≤ (k + m) * 32 := Nat.mul_le_mul_left _ hby
        omega) hbase
      exact ⟨v', w', hr, h2, h3, h5⟩
  obtain ⟨v', w', hrun, r1, r2, r3⟩ := hrun
  unfold wpOpIn
  simp only [hi]
  have hw : Region.wanted o (yielded ops a.tmps) = true := by simp [Region.wanted, hg]
  rw [if_pos hw]
  unfold Oper.wpIn
  refine ⟨?_, ?_⟩
  · simp [Oper.about, ho, resolve, Target.leads, Sem.run_pure]
  · rw [Oper.semAt_plain F _ _ (by rw [ho]; intro c hc'; cases hc')]
    simp [execOp, ho, resolve, invoke, builtin, hs, hx, hrun, Result.andThen]
    exact h v' w' r1 r2 r3
end R10
end Go.Proofs.YtkmgblnofapccaaDoor

/- What a script makes of a text: the code's Apply, walked. -/
namespace Go.Proofs.YtkmgblnofapccaaDoor
open Go.RowKit Go.Shelf
open R10
attribute [local go_sem] Oper.semAt_some


theorem cut_at (A : List (List UInt8)) (i n : Int) (j : Nat) (u : Value) (h : (scells (cut A i n))[j]? = some u) : (scells A)[i.toNat + j]? = some u ∧ j < n.toNat := by
  simp only [scells, cut, List.getElem?_map, List.getElem?_take, List.getElem?_drop] at h ⊢
  split at h
  · exact ⟨h, by assumption⟩
  · simp at h
theorem cut_length (A : List (List UInt8)) (i n : Int) (h0 : 0 ≤ i) (h1 : 0 ≤ n) (h2 : i + n ≤ A.length) : (cut A i n).length = n.toNat := by
  simp [cut]; omega
set_option maxRecDepth 10000 in
theorem run_cut (A : List (List UInt8)) (ao : Option Addr) (cap : Nat) (i n : Int) (h0 : 0 ≤ i) (h1 : 0 ≤ n) (h2 : i + n ≤ A.length) (w : World) (hA : HS w (.slice ao A.length cap) A) :
    ∃ vs, (∀ u : World, (Instr.slice 23 (.slice ao A.length cap) (some (.int .i64 i)) (some (.int .i64 (i + n))) none).run Tryd.prog u = .ok vs u) ∧ (∀ u : World, HS u (.slice ao A.length cap) A → HS u vs (cut A i n)) := by
  have hnc : A.length ≤ cap ∧ (ao = none → A = []) := by
    rcases hA with ⟨h, h3, _⟩ | ⟨ad, c, h, h3, _⟩
    · exact ⟨by omega, fun _ => List.eq_nil_of_length_eq_zero h3⟩
    · cases h
      exact ⟨h3, fun h => by cases h⟩
  refine ⟨.slice (if cap = i.toNat then ao else ao.map (·.add i.toNat)) n.toNat (cap - i.toNat), fun u => ?_, fun u hu => ?_⟩
  · rw [run_slice_lh (P := Tryd.prog) u 23 ao A.length cap (by kernel_rfl) .i64 .i64 i (i + n) h0 (by omega) (by omega)]
    have : (sizeOf (Tryd.prog.elem 23)).run Tryd.prog u = .ok 1 u := by kernel_rfl
    rw [this]
    simp only [Result.andThen, sliced, Nat.mul_one]
    congr 2
    omega
  · unfold HS
    rw [cut_length A i n h0 h1 h2]
    cases ao with
    | none =>
      have hA0 := hnc.2 rfl
      subst hA0
      have : i = 0 := by simp at h2; omega
      subst this
      have : n = 0 := by simp at h2; omega
      subst this
      refine .inl ⟨?_, rfl, by simp [cut, scells]⟩
      rcases hA with ⟨h, h3, _⟩ | ⟨ad, c, h, h3, _⟩
      · cases h; simp
      · cases h
    | some ad =>
      refine .inr ⟨if cap = i.toNat then ad else ad.add i.toNat, cap - i.toNat, by split <;> simp, by omega, fun j x hj => ?_⟩
      obtain ⟨h4, h5⟩ := cut_at A i n j x hj
      rcases hu with ⟨h, _⟩ | ⟨ad', c, h, h3, hc⟩
      · cases h
      · cases h
        have := hc _ _ h4
        rw [if_neg (by omega)]
        obtain ⟨b, off, rfl⟩ := addr_of (hc 0 _ (List.getElem?_eq_getElem (by rw [scells_length]; omega)))
        rw [add_none] at this
        rw [add_none, add_none, Nat.add_assoc]
        exact this

theorem pas_length {n m : Int} (A B : List (List UInt8)) (pre : List (Pie n m)) : (pre.flatMap fun x => pa A B x.1).length ≤ pre.length * (A.length + B.length) := by
  induction pre with
  | nil => simp
  | cons x t ih =>
    have h1 : (pa A B x.1).length ≤ A.length + B.length := by simp [pa, cut]; omega
    simp only [List.flatMap_cons, List.length_append, List.length_cons]
    rw [Nat.add_mul]
    omega
end Go.Proofs.YtkmgblnofapccaaDoor

/- Lines with signs and hunks as cells: what slices of them hold; hunks in a box; append onto an owned row of hunks. -/
namespace Go.Proofs.YtkmgblnofapccaaDoor
open Go.RowKit

def mkC (m : Mk) : List Value := [.int .u8 m.sg, .string ⟨m.tx.toArray⟩]
def mkcells (l : List Mk) : List Value := l.flatMap mkC
theorem mkcells_length (l : List Mk) : (mkcells l).length = l.length * 2 := by
  induction l with
  | nil => rfl
  | cons c l ih => simp only [mkcells, List.flatMap_cons, List.length_append, List.length_cons] at ih ⊢; rw [ih]; simp [mkC]; omega
theorem mkcells_append (a b : List Mk) : mkcells (a ++ b) = mkcells a ++ mkcells b := by simp [mkcells]
theorem mkcells_one (l : List Mk) : ∀ u ∈ mkcells l, u.oneCell' = true := by
  intro u hu
  simp only [mkcells, List.mem_flatMap, mkC] at hu
  obtain ⟨c, _, h⟩ := hu
  simp only [List.mem_cons, List.not_mem_nil, or_false] at h
  rcases h with rfl | rfl <;> rfl
theorem mkcells_at (l : List Mk) (k : Nat) (hk : k < l.length) : (mkcells l)[2 * k]? = some (.int .u8 l[k].sg) ∧ (mkcells l)[2 * k + 1]? = some (.string ⟨l[k].tx.toArray⟩) := by
  induction l generalizing k with
  | nil => simp at hk
  | cons c l ih =>
    cases k with
    | zero => simp [mkcells, mkC]
    | succ k =>
      have h := ih k (by simpa using hk)
      have e : ∀ i, (mkcells (c :: l))[2 * (k + 1) + i]? = (mkcells l)[2 * k + i]? := by
        intro i
        have : mkcells (c :: l) = mkC c ++ mkcells l := rfl
        rw [this, List.getElem?_append_right (by simp [mkC]; omega)]
        congr 1
        simp [mkC]; omega
      simp only [List.getElem_cons_succ]
      refine ⟨by rw [← (h).1]; exact e 0, by rw [← h.2]; exact e 1⟩
/-- a slice of lines with signs -/
def HMk (w : World) (v : Value) (l : List Mk) : Prop := Holds w v l.length (mkcells l)
theorem HMk.keep {w w' : World} {v : Value} {l : List Mk} (h : HMk w v l) {N : Nat} (hk : Below N w w') (hN : w.heap.size ≤ N) : HMk w' v l := Holds.keep h fun k hk' => hk.block k (by omega)
theorem HMk.at {w : World} {ao : Option Addr} {n c : Nat} {l : List Mk} (h : HMk w (.slice ao n c) l) (h0 : 0 < l.length) : ∃ b off, ao = some ⟨b, off, none⟩ ∧ b < w.heap.size ∧
    ∀ k (hk : k < l.length), w.cell? ⟨b, off + k * 2, none⟩ = some (.int .u8 l[k].sg) ∧ w.cell? ⟨b, off + k * 2 + 1, none⟩ = some (.string ⟨l[k].tx.toArray⟩) := by
  obtain ⟨b, off, c', hv, hb, hc⟩ := Holds.at h (by rw [mkcells_length]; omega)
  cases hv
  refine ⟨b, off, rfl, hb, fun k hk => ?_⟩
  obtain ⟨h0, h1⟩ := mkcells_at l k hk
  have hlen := mkcells_length l
  have e : k * 2 = 2 * k := by omega
  rw [e]
  refine ⟨?_, ?_⟩
  · have := hc (2 * k) (by omega)
    rw [← h0, this, List.getElem?_eq_getElem]
  · have := hc (2 * k + 1) (by omega)
    rw [← h1, Nat.add_assoc, this, List.getElem?_eq_getElem]
theorem Low.mk {W w : World} (h : Low W w) {b off n c : Nat} {l : List Mk} (hl : HMk W (.slice (some ⟨b, off, none⟩) n c) l) (k : Nat) (hk : k < l.length) {x : Mk} (hx : l[k] = x) : w.cell? ⟨b, off + k * 2, none⟩ = some (.int .u8 x.sg) ∧ w.cell? ⟨b, off + k * 2 + 1, none⟩ = some (.string ⟨x.tx.toArray⟩) := by
  obtain ⟨b', off', e, _, hc⟩ := HMk.at (HMk.keep hl h (Nat.le_refl _)) (by omega)
  cases e
  rw [← hx]
  exact hc k hk
/-- a hunk as a value, in a box -/
def hkV (h : Hk) (v : Value) : Value := .agg #[.int .i64 h.A, .int .i64 h.AN, .int .i64 h.B, .int .i64 h.BN, v]
def hkC (h : Hk) (v : Value) : List Value := [.int .i64 h.A, .int .i64 h.AN, .int .i64 h.B, .int .i64 h.BN, v]
section
variable {u u' : World} {b : Nat} {h : Hk} {v : Value}
end
/-- hunks in a row: each with the slice of its lines -/
def hkcells : List (Hk × Value) → List Value
  | [] => []
  | (h, v) :: l => hkC h v ++ hkcells l
theorem hkcells_length (l : List (Hk × Value)) : (hkcells l).length = l.length * 5 := by
  induction l with
  | nil => rfl
  | cons c l ih =>
    obtain ⟨h, v⟩ := c
    simp only [hkcells, List.length_append, List.length_cons]
    rw [ih]
    simp [hkC]; omega
theorem hkcells_append (a b : List (Hk × Value)) : hkcells (a ++ b) = hkcells a ++ hkcells b := by
  induction a with
  | nil => rfl
  | cons c l ih =>
    obtain ⟨h, v⟩ := c
    simp only [List.cons_append, hkcells, ih, List.append_assoc]
theorem hkcells_at (l : List (Hk × Value)) (k : Nat) (hk : k < l.length) : (hkcells l)[5 * k]? = some (.int .i64 l[k].1.A) ∧ (hkcells l)[5 * k + 1]? = some (.int .i64 l[k].1.AN) ∧ (hkcells l)[5 * k + 2]? = some (.int .i64 l[k].1.B) ∧ (hkcells l)[5 * k + 3]? = some (.int .i64 l[k].1.BN) ∧ (hkcells l)[5 * k + 4]? = some l[k].2 := by
  induction l generalizing k with
  | nil => simp at hk
  | cons c l ih =>
    obtain ⟨x, y⟩ := c
    cases k with
    | zero => simp [hkcells, hkC]
    | succ k =>
      have h := ih k (by simpa using hk)
      have e : ∀ i, (hkcells ((x, y) :: l))[5 * (k + 1) + i]? = (hkcells l)[5 * k + i]? := by
        intro i
        have : hkcells ((x, y) :: l) = hkC x y ++ hkcells l := rfl
        rw [this, List.getElem?_append_right (by simp [hkC]; omega)]
        congr 1
        simp [hkC]; omega
      simp only [List.getElem_cons_succ]
      refine ⟨by rw [← (h).1]; exact e 0, by rw [← h.2.1]; exact e 1, by rw [← h.2.2.1]; exact e 2, by rw [← h.2.2.2.1]; exact e 3, by rw [← h.2.2.2.2]; exact e 4⟩
/-- a slice of hunks; p: the hunks, each with the slice of its lines -/
structure HHp (w : World) (v : Value) (p : List (Hk × Value)) : Prop where
  row : Holds w v p.length (hkcells p)
  ins : ∀ x ∈ p, HMk w x.2 x.1.ls
def HHk (w : World) (v : Value) (l : List Hk) : Prop := ∃ p : List (Hk × Value), p.map (·.1) = l ∧ HHp w v p
theorem HHp.keep {w w' : World} {v : Value} {p : List (Hk × Value)} (h : HHp w v p) {N : Nat} (hk : Below N w w') (hN : w.heap.size ≤ N) : HHp w' v p :=
  ⟨Holds.keep h.row fun k hk' => hk.block k (by omega), fun x hx => HMk.keep (h.ins x hx) hk hN⟩
theorem HHk.keep {w w' : World} {v : Value} {l : List Hk} (h : HHk w v l) {N : Nat} (hk : Below N w w') (hN : w.heap.size ≤ N) : HHk w' v l := by
  obtain ⟨p, hp, h⟩ := h
  exact ⟨p, hp, h.keep hk hN⟩
theorem HHp.at {w : World} {ao : Option Addr} {n c : Nat} {l : List (Hk × Value)} (h : HHp w (.slice ao n c) l) (h0 : 0 < l.length) : ∃ b off, ao = some ⟨b, off, none⟩ ∧ b < w.heap.size ∧
    ∀ k (hk : k < l.length), w.cell? ⟨b, off + k * 5, none⟩ = some (.int .i64 l[k].1.A) ∧ w.cell? ⟨b, off + k * 5 + 1, none⟩ = some (.int .i64 l[k].1.AN) ∧ w.cell? ⟨b, off + k * 5 + 2, none⟩ = some (.int .i64 l[k].1.B) ∧ w.cell? ⟨b, off + k * 5 + 3, none⟩ = some (.int .i64 l[k].1.BN) ∧ w.cell? ⟨b, off + k * 5 + 4, none⟩ = some l[k].2 := by
  obtain ⟨b, off, c', hv, hb, hc⟩ := Holds.at h.row (by rw [hkcells_length]; omega)
  cases hv
  refine ⟨b, off, rfl, hb, fun k hk => ?_⟩
  obtain ⟨h0, h1, h2, h3, h4⟩ := hkcells_at l k hk
  have hlen := hkcells_length l
  have e : k * 5 = 5 * k := by omega
  rw [e]
  refine ⟨?_, ?_, ?_, ?_, ?_⟩
  · have := hc (5 * k) (by omega)
    rw [← h0, this, List.getElem?_eq_getElem]
  · have := hc (5 * k + 1) (by omega)
    rw [← h1, Nat.add_assoc, this, List.getElem?_eq_getElem]
  · have := hc (5 * k + 2) (by omega)
    rw [← h2, Nat.add_assoc, this, List.getElem?_eq_getElem]
  · have := hc (5 * k + 3) (by omega)
    rw [← h3, Nat.add_assoc, this, List.getElem?_eq_getElem]
  · have := hc (5 * k + 4) (by omega)
    rw [← h4, Nat.add_assoc, this, List.getElem?_eq_getElem]
theorem HMk.form {w : World} {v : Value} {l : List Mk} (h : HMk w v l) : ∃ ao c, v = .slice ao l.length c := Holds.form h
theorem hkcells_one {w : World} (l : List (Hk × Value)) (h : ∀ x ∈ l, HMk w x.2 x.1.ls) : ∀ u ∈ hkcells l, u.oneCell' = true := by
  induction l with
  | nil => simp [hkcells]
  | cons c l ih =>
    obtain ⟨x, y⟩ := c
    intro u hu
    simp only [hkcells, hkC, List.mem_append, List.mem_cons, List.not_mem_nil, or_false] at hu
    rcases hu with (rfl | rfl | rfl | rfl | rfl) | hu
    · rfl
    · rfl
    · rfl
    · rfl
    · obtain ⟨ao, c, hv⟩ := (h (x, u) (by simp)).form
      dsimp only at hv
      rw [hv]
      rfl
    · exact ih (fun x hx => h x (by simp [hx])) u hu

theorem run_append_w (w : World) (T E ty : TypeId) (z : Value) (size bytes : Nat) (hT : Tryd.prog.underlying T = some (.slice E)) (hinfo : (Tryd.prog.info? E).map (fun i => (i.zero, i.size, i.bytes)) = some (some z, size, bytes)) (hz1 : z.cells.size = size) (hsz : 0 < size) (hby : bytes ≤ 64)
    (base : Nat) (v : Value) (k : Nat) (xs : List Value) (hown : w.ownsRow base E size v k xs) (vx : Value) (m : Nat) (news : List Value) (hh : Holds w vx m news) (hl : news.length = m * size)
    (h1 : ∀ u ∈ news, u.oneCell' = true) (hk : k + m ≤ 2199023255552) (hbase : base ≤ w.heap.size) :
    ∃ v' w', (Builtin.append_ #[T, T] ty #[v, vx]).run Tryd.prog w = .ok v' w' ∧ w'.ownsRow base E size v' (k + m) (xs ++ news) ∧ w.grownBy w' v.ownBlock ∧ (v'.ownBlock = v.ownBlock ∨ v'.ownBlock = some w.heap.size) := by
  obtain ⟨i0, hi0, hz0, hzs, hz2⟩ := info_parts hinfo
  rcases hh with ⟨rfl, rfl, rfl⟩ | ⟨ad, c, rfl, _, hc⟩
  · exact ⟨v, w, run_append_owned_none (P := Tryd.prog) (w := w) base T ty E i0 size hT hi0 v k xs hown, by simpa using hown, World.grownBy.refl _ _, .inl rfl⟩
  · obtain ⟨v', w', hr, h2, h3, _, h5⟩ := run_append_own_at (P := Tryd.prog) w base T ty E i0 z size bytes hT hi0 hz0 hzs hz2 hz1 hsz v k xs hown ad m c news hl hc h1 (by unfold maxLen; omega) (by
      have : (k + m) * bytes ≤ (k + m) * 64 := Nat.mul_le_mul_left _ hby
      omega) hbase
    exact ⟨v', w', hr, h2, h3, h5⟩
theorem wpList_append_w {ops : Array Oper} {rest : List Oper} {o : Oper} {a : Act} {Q : Exit → Act → World → Prop} (w : World) (hw : Region.wanted o (yielded ops a.tmps) = true) (s x : Operand) (T E : TypeId) (z : Value) (size bytes : Nat)
    (ho : o.op = .call { callee := .builtin .append, args := #[s, x], argTypes := #[T, T] }) (hT : Tryd.prog.underlying T = some (.slice E)) (hinfo : (Tryd.prog.info? E).map (fun i => (i.zero, i.size, i.bytes)) = some (some z, size, bytes)) (hz1 : z.cells.size = size) (hsz : 0 < size) (hby : bytes ≤ 64)
    (base : Nat) (v : Value) (k : Nat) (xs : List Value) (hs : a.eval s = v) (hown : w.ownsRow base E size v k xs) (vx : Value) (m : Nat) (news : List Value) (hx : a.eval x = vx) (hh : Holds w vx m news) (hl : news.length = m * size)
    (h1 : ∀ u ∈ news, u.oneCell' = true) (hk : k + m ≤ 2199023255552) (hbase : base ≤ w.heap.size)
    (h : ∀ v' w', w'.ownsRow base E size v' (k + m) (xs ++ news) → w.grownBy w' v.ownBlock → (v'.ownBlock = v.ownBlock ∨ v'.ownBlock = some w.heap.size) → wpList Tryd.prog ops Q rest (a.put o.dst v') w') : wpList Tryd.prog ops Q (o :: rest) a w := by
  refine wpList_step fun K hK => ?_
  rw [if_pos hw]
  obtain ⟨v', w', hr, h2, h3, h4⟩ := run_append_w w T E o.type z size bytes hT hinfo hz1 hsz hby base v k xs hown vx m news hh hl h1 hk hbase
  unfold Oper.wp
  simp [execOp, ho, resolve, invoke, builtin, hs, hx, hr, Result.andThen]
  exact hK _ _ (h v' w' h2 h3 h4)
theorem hnil_row (w : World) (base : Nat) (e : TypeId) (s : Nat) : w.ownsRow base e s (.slice none 0 0) 0 [] := ⟨by simp, .inl ⟨rfl, rfl⟩⟩
end Go.Proofs.YtkmgblnofapccaaDoor

/- The reference's small functions of layer 11, walked: numbers, places, lines, the lines of a side. -/
namespace Go.Proofs.YtkmgblnofapccaaDoor
open Go.RowKit

/-- a line's bytes, one by one -/
theorem lin_at {s : List UInt8} (hs : s ≠ []) : linB s = true ↔ ∀ (j : Nat) (hj : j + 1 < s.length), s[j] ≠ 10 := by
  unfold linB
  have e1 : s.isEmpty = false := by cases s with | nil => exact absurd rfl hs | cons => rfl
  rw [e1]
  simp only [Bool.not_false, Bool.true_and, List.all_eq_true]
  constructor
  · intro h j hj
    have := h s[j] (by
      rw [List.mem_iff_getElem]
      exact ⟨j, by simp; omega, by simp⟩)
    simpa using this
  · intro h c hc
    rw [List.mem_iff_getElem] at hc
    obtain ⟨j, hj, rfl⟩ := hc
    simp at hj
    have := h j (by omega)
    simpa using this
end Go.Proofs.YtkmgblnofapccaaDoor

/- The reference's line, last of layer 11, walked. -/
namespace Go.Proofs.YtkmgblnofapccaaDoor
open Go.RowKit

theorem bat (l : List UInt8) (k : Nat) (h : k < (⟨l.toArray⟩ : ByteArray).size) : (⟨l.toArray⟩ : ByteArray)[k]'h = l[k]'(h) := rfl
attribute [local go_sem] bat ByteArray.extract_mk
theorem is_feed {x : UInt8} (h : x = 10) : ((x.toNat : Int) == 10) = true := by subst h; rfl
theorem no_feed {x : UInt8} (h : x ≠ 10) : ((x.toNat : Int) == 10) = false := by
  have : x.toNat ≠ 10 := fun e => h (UInt8.toNat_inj.1 e)
  rw [beq_eq_false_iff_ne]; omega
theorem idx_s (L : List UInt8) (i : Int) (k : Nat) (hk : k < L.length) (hi : i = k) (w : World) :
    (Instr.index 9 (.string ⟨L.toArray⟩) (.int .i64 i)).run Tryd.prog w = .ok (.int .u8 (L[k].toNat : Int)) w := by
  subst hi
  rw [run_index_string w 9 ⟨L.toArray⟩ .i64 (k : Int) Tryd.underlying9]
  have hs : (⟨L.toArray⟩ : ByteArray).size = L.length := rfl
  rw [dif_pos ⟨by omega, by rw [hs]; omega⟩]
  rfl
theorem wrap_s {n : Int} (h0 : -9223372036854775808 ≤ n) (h1 : n ≤ 9223372036854775807) : IntKind.i64.wrap n = n := by
  simp [IntKind.wrap, IntKind.bits, IntKind.signed]
  split <;> omega
theorem fd_last {s : List UInt8} (h : 0 < s.length) : fdB s = (s[s.length - 1] == 10) := by
  unfold fdB
  rw [List.getLast?_eq_getElem?, List.getElem?_eq_getElem (by omega)]
  rfl

end Go.Proofs.YtkmgblnofapccaaDoor

/- The reference's fields of layer 11, walked. -/
namespace Go.Proofs.YtkmgblnofapccaaDoor
open Go.RowKit

section
variable {u u' : World} {b : Nat} {m : Mk}
end
end Go.Proofs.YtkmgblnofapccaaDoor

/- Steps of a region that draws its order, taken one by one where a guard says no: reads, calls by their contracts. -/
namespace Go.Proofs.YtkmgblnofapccaaDoor
open Go.RowKit

theorem step_want {b : Bool} {X Y : Prop} (h : b = true) (hX : X) : if b = true then X else Y := by
  rw [if_pos h]
  exact hX
theorem step_none {b : Bool} {X Y : Prop} (h : b = false) (hY : Y) : if b = true then X else Y := by
  rw [if_neg (by rw [h]; exact Bool.false_ne_true)]
  exact hY
/-- an operation that reads alone, or is not wanted, from one stage of the region to the next -/
theorem go_take {P : Program} {S : World → Prop} {md : Region.Mode} {ops : Array Oper} {Q : Exit → Act → World → Prop} {fuel : Nat} {listed : Array Bool} {A : Act} {w : World}
    (i d : Nat) (op : Oper) (v : Value) (hi : ops[i]? = some op) (hd : op.dst = some d) (hs : Region.noSelect ops = true) (hf : Region.free md ops listed i = true) (hr : (Region.ready md ops listed).contains i = true)
    (hQ : ∀ c a w, Q (.panic c) (a.put op.dst v) w → Q (.panic c) a w) (hy : YieldsIf P ops S op v A) (hS : S w)
    (h : wpAnyH P md ops Q S fuel (listed.setIfInBounds i true) (A.put (some d) v) w) : wpAnyH P md ops Q S (fuel + 1) listed A w :=
  wpAnyH_take hi hs hf hr hQ hy hS (by rw [hd]; exact h)
/-- an operation that is not wanted, where nothing else may come up -/
theorem go_none {P : Program} {S : World → Prop} {md : Region.Mode} {ops : Array Oper} {Q : Exit → Act → World → Prop} {fuel : Nat} {listed : Array Bool} {A : Act} {w : World}
    (i d : Nat) (op : Oper) (hi : ops[i]? = some op) (hd : op.dst = some d) (hr : Region.ready md ops listed = [i]) (hwt : Region.wanted op (yielded ops A.tmps) = false) (hS : S w)
    (h : wpAnyH P md ops Q S fuel (listed.setIfInBounds i true) (A.put (some d) undef) w) :
    wpAnyH P md ops Q S (fuel + 1) listed A w := by
  refine wpAnyH_ready hr (by simp) (AllReadyH.cons hi (fun K hK => ?_) AllReadyH.nil)
  refine step_none hwt ?_
  exact hK.out _ _ hS (fun _ => by rw [hd]; exact h)
/-- a call by its contract, where nothing else may come up -/
theorem go_callH {P : Program} {S : World → Prop} {md : Region.Mode} {ops : Array Oper} {Q : Exit → Act → World → Prop} {fuel : Nat} {listed : Array Bool} {A : Act} {w : World}
    (i d : Nat) (op : Oper) (hi : ops[i]? = some op) (hd : op.dst = some d) (hr : Region.ready md ops listed = [i]) (hwt : Region.wanted op (yielded ops A.tmps) = true)
    (F : Nat) (xs : Array Operand) (ts : Array TypeId) (ho : op.op = .call { callee := .value (.func F), args := xs, argTypes := ts })
    (args : Array Value) (hx : xs.map A.eval = args) (hen : ∀ args w, (callFunc F args).run P w = .ok (.enter F args) w) (v : Value)
    (hc : Calls P F args w fun e w' => e = .returned v ∧ S w')
    (h : ∀ w', S w' → wpAnyH P md ops Q S fuel (listed.setIfInBounds i true) (A.put (some d) v) w') :
    wpAnyH P md ops Q S (fuel + 1) listed A w := by
  refine wpAnyH_ready hr (by simp) (AllReadyH.cons hi (fun K hK => ?_) AllReadyH.nil)
  refine step_want hwt ?_
  unfold Oper.wp
  have e : (execOp A.eval op).run P w = .ok (.enter F args) w := by
    have h1 := hen args w
    simp only [execOp, ho, resolve, invoke]
    have h2 : A.eval (.func F) = .func (.func F) #[] #[] := rfl
    simp only [h2, Deferred.ofValue, Sem.run_bind, Sem.run_pure, Result.andThen_ok, hx, Array.append_empty, Array.empty_append]
    exact h1
  rw [e, Oper.upon_enter]
  refine hc.mono ?_
  rintro e w' ⟨rfl, hb⟩
  exact hK.out _ _ hb (fun hu => by rw [hd]; exact h w' hu)
/-- a call of whatever function value by its contract, where nothing else may come up; R: what is told of what is answered -/
theorem go_callE {P : Program} {S : World → Prop} {md : Region.Mode} {ops : Array Oper} {Q : Exit → Act → World → Prop} {fuel : Nat} {listed : Array Bool} {A : Act} {w : World}
    (i d : Nat) (op : Oper) (hi : ops[i]? = some op) (hd : op.dst = some d) (hr : Region.ready md ops listed = [i]) (hwt : Region.wanted op (yielded ops A.tmps) = true)
    (F : Nat) (x : Operand) (xs : Array Operand) (ts : Array TypeId) (ho : op.op = .call { callee := .value x, args := xs, argTypes := ts })
    (cap : Array Value) (hxv : A.eval x = .func (.func F) #[] cap) (args : Array Value) (hx : xs.map A.eval = args) (hen : ∀ args w, (callFunc F args).run P w = .ok (.enter F args) w) (R : Value → World → Prop)
    (hc : Calls P F (args ++ cap) w fun e w' => ∃ v, e = .returned v ∧ S w' ∧ R v w')
    (h : ∀ v w', S w' → R v w' → wpAnyH P md ops Q S fuel (listed.setIfInBounds i true) (A.put (some d) v) w') :
    wpAnyH P md ops Q S (fuel + 1) listed A w := by
  refine wpAnyH_ready hr (by simp) (AllReadyH.cons hi (fun K hK => ?_) AllReadyH.nil)
  refine step_want hwt ?_
  unfold Oper.wp
  have e : (execOp A.eval op).run P w = .ok (.enter F (args ++ cap)) w := by
    have h1 := hen (args ++ cap) w
    simp only [execOp, ho, resolve, invoke]
    simp only [hxv, Deferred.ofValue, Sem.run_bind, Sem.run_pure, Result.andThen_ok, hx, Array.empty_append]
    exact h1
  rw [e, Oper.upon_enter]
  refine hc.mono ?_
  rintro e w' ⟨v, rfl, hb, hR⟩
  exact hK.out _ _ hb (fun hu => by rw [hd]; exact h v w' hu hR)
/-- an operation that yields a value, whatever it does to memory, where nothing else may come up -/
theorem go_val {P : Program} {S : World → Prop} {md : Region.Mode} {ops : Array Oper} {Q : Exit → Act → World → Prop} {fuel : Nat} {listed : Array Bool} {A : Act} {w : World}
    (i d : Nat) (op : Oper) (hi : ops[i]? = some op) (hd : op.dst = some d) (hr : Region.ready md ops listed = [i]) (hwt : Region.wanted op (yielded ops A.tmps) = true)
    (v : Value) (w' : World) (he : (execOp A.eval op).run P w = .ok (.value v) w') (hS : S w')
    (h : wpAnyH P md ops Q S fuel (listed.setIfInBounds i true) (A.put (some d) v) w') :
    wpAnyH P md ops Q S (fuel + 1) listed A w := by
  refine wpAnyH_ready hr (by simp) (AllReadyH.cons hi (fun K hK => ?_) AllReadyH.nil)
  refine step_want hwt ?_
  unfold Oper.wp
  rw [he, Oper.upon_value]
  exact hK.out _ _ hS (fun _ => by rw [hd]; exact h)
/-- a store, where nothing else may come up -/
theorem go_skip {P : Program} {S : World → Prop} {md : Region.Mode} {ops : Array Oper} {Q : Exit → Act → World → Prop} {fuel : Nat} {listed : Array Bool} {A : Act} {w : World}
    (i : Nat) (op : Oper) (hi : ops[i]? = some op) (hd : op.dst = none) (hr : Region.ready md ops listed = [i]) (hwt : Region.wanted op (yielded ops A.tmps) = true)
    (w' : World) (he : (execOp A.eval op).run P w = .ok .skip w') (hS : S w')
    (h : wpAnyH P md ops Q S fuel (listed.setIfInBounds i true) A w') :
    wpAnyH P md ops Q S (fuel + 1) listed A w := by
  refine wpAnyH_ready hr (by simp) (AllReadyH.cons hi (fun K hK => ?_) AllReadyH.nil)
  refine step_want hwt ?_
  unfold Oper.wp
  rw [he, Oper.upon_skip]
  exact hK.out _ _ hS (fun _ => by rw [hd]; exact h)
/-- a number, a slice, a function value is read -/
theorem load_int {u : World} {a : Addr} {z : Int} (h : u.cell? a = some (.int .i64 z)) {op : Oper} (x : Operand) (ho : op.op = .load 3 x) {ev : Operand → Value} (hx : ev x = .pointer (some a)) :
    (execOp ev op).run Tryd.prog u = .ok (.value (.int .i64 z)) u := by
  simp only [execOp, ho, hx]
  go_simp
end Go.Proofs.YtkmgblnofapccaaDoor

/- The reference's Check of layer 11, walked. -/
namespace Go.Proofs.YtkmgblnofapccaaDoor
open Go.RowKit

end Go.Proofs.YtkmgblnofapccaaDoor

/- The reference's Order of layer 11, walked. -/
namespace Go.Proofs.YtkmgblnofapccaaDoor
open Go.RowKit

/-- hunks of lengths that can be gone through -/
def HOk (p : List (Hk × Value)) : Prop := p.length ≤ 1099511627776 ∧ ∀ x ∈ p, x.1.ls.length ≤ 1099511627776 ∧ ∀ m ∈ x.1.ls, m.tx.length ≤ 1099511627776
/-- a hunk of a row, read -/
theorem HHp.take {w W : World} {b off n c : Nat} {p : List (Hk × Value)} (h : HHp w (.slice (some ⟨b, off, none⟩) n c) p) (hB : Below w.heap.size w W) (k : Nat) (hk : k < p.length) {x : Hk} {y : Value} (hx : p[k] = (x, y)) : (W.cell? ⟨b, off + k * 5, none⟩ = some (.int .i64 x.A) ∧ W.cell? ⟨b, off + k * 5 + 1, none⟩ = some (.int .i64 x.AN) ∧ W.cell? ⟨b, off + k * 5 + 2, none⟩ = some (.int .i64 x.B) ∧ W.cell? ⟨b, off + k * 5 + 3, none⟩ = some (.int .i64 x.BN) ∧ W.cell? ⟨b, off + k * 5 + 4, none⟩ = some y) ∧ HMk W y x.ls := by
  have h2 := h.keep hB (Nat.le_refl _)
  obtain ⟨b', off', e, _, hc⟩ := h2.at (by omega)
  cases e
  have := hc k hk
  rw [hx] at this
  refine ⟨this, ?_⟩
  have hi := h2.ins p[k] (List.getElem_mem hk)
  rw [hx] at hi
  exact hi
theorem errs_drop {l : List Hk} {k : Nat} (hk : k < l.length) : errs (l.drop k) = if chkH l[k] ≠ 0 then chkH l[k] else errs (l.drop (k + 1)) := by
  rw [List.drop_eq_getElem_cons hk]
  rfl
theorem ord_ok {l : List Hk} (h : errs l = 0) : ordH l = if ordB 0 0 l = true then 0 else 121 := by
  unfold ordH
  rw [h]
  simp
theorem ord_err {l : List Hk} {z : Int} (h : errs l = z) (hz : z ≠ 0) : ordH l = z := by
  unfold ordH
  rw [h, if_pos hz]
theorem errs_ok {l : List Hk} (h : errs l = 0) : ∀ x ∈ l, chkH x = 0 := by
  induction l with
  | nil => intro x hx; cases hx
  | cons y l ih =>
    simp only [errs] at h
    by_cases hy : chkH y ≠ 0
    · rw [if_pos hy] at h
      exact absurd h hy
    · rw [if_neg hy] at h
      intro x hx
      rcases List.mem_cons.1 hx with rfl | hx
      · simpa using hy
      · exact ih h x hx
/-- the numbers of a right hunk -/
theorem chk_num {h : Hk} (hc : chkH h = 0) : (0 ≤ h.A ∧ h.A ≤ 2147483647) ∧ (0 ≤ h.AN ∧ h.AN ≤ 2147483647) ∧ (0 ≤ h.B ∧ h.B ≤ 2147483647) ∧ (0 ≤ h.BN ∧ h.BN ≤ 2147483647) := by
  have hr : rngB h = true := by
    cases hq : rngB h with
    | true => rfl
    | false => simp [chkH, hq] at hc
  simp only [rngB, Bool.and_eq_true, nat31, decide_eq_true_eq] at hr
  omega
theorem at_num {h : Hk} (hc : chkH h = 0) : (-1 ≤ atA h ∧ atA h ≤ 2147483647) ∧ (-1 ≤ atB h ∧ atB h ≤ 2147483647) := by
  have := chk_num hc
  unfold atA atB
  split <;> split <;> omega

end Go.Proofs.YtkmgblnofapccaaDoor

/- The reference's Same, SameHunks of layer 11, walked: hunks that are the same. -/
namespace Go.Proofs.YtkmgblnofapccaaDoor
open Go.RowKit

end Go.Proofs.YtkmgblnofapccaaDoor

/- The reference's SameHunks of layer 11, walked: rows of hunks that are the same; steps by hand. -/
namespace Go.Proofs.YtkmgblnofapccaaDoor
open Go.RowKit

/-- the cells of a hunk in a row -/
def HkAt (u : World) (b o : Nat) (x : Hk) (y : Value) : Prop := u.cell? ⟨b, o, none⟩ = some (.int .i64 x.A) ∧ u.cell? ⟨b, o + 1, none⟩ = some (.int .i64 x.AN) ∧ u.cell? ⟨b, o + 2, none⟩ = some (.int .i64 x.B) ∧ u.cell? ⟨b, o + 3, none⟩ = some (.int .i64 x.BN) ∧ u.cell? ⟨b, o + 4, none⟩ = some y
theorem HkAt.low {u u' : World} {b o : Nat} {x : Hk} {y : Value} (h : HkAt u b o x y) (hB : Low u u') : HkAt u' b o x y := by
  have key : ∀ (q : Addr) (z : Value), u.cell? q = some z → u'.cell? q = some z := fun q z hz => (World.cell?_of_block (w := u) (Below.block hB _ (World.block_lt_of_cell? _ _ hz))).trans hz
  exact ⟨key _ _ h.1, key _ _ h.2.1, key _ _ h.2.2.1, key _ _ h.2.2.2.1, key _ _ h.2.2.2.2⟩
end Go.Proofs.YtkmgblnofapccaaDoor

/- A row of numbers of one's own, at a known block: what is kept. -/
namespace Go.Proofs.YtkmgblnofapccaaDoor
open Go.RowKit

/-- the state of the walk -/
structure Ls (w : World) (g n : Nat) (Z : List Int) (u : World) : Prop where
  low : Below w.heap.size w u
  own : u.ownsRow w.heap.size 3 1 (.slice (some ⟨g, 0, none⟩) n n) n (icells Z)
theorem Ls.drewN {w u : World} {g n : Nat} {Z : List Int} (h : Ls w g n Z u) (k : Nat) : Ls w g n Z (u.drewN k) := ⟨Below.dN h.low k, h.own⟩
theorem Ls.keep {w u u' : World} {g n : Nat} {Z : List Int} (h : Ls w g n Z u) (hb : Below u.heap.size u u') : Ls w g n Z u' := ⟨h.low.trans (hb.mono h.low.size), owns_keep h.own hb⟩
theorem Ls.set {w u : World} {g n : Nat} {Z : List Int} (h : Ls w g n Z u) (k : Nat) (m : Int) : Ls w g n (Z.set k m) (u.setCell ⟨g, k, none⟩ (.int .i64 m)) := by
  obtain ⟨p1, g1⟩ := h.own.stored k (.int .i64 m)
  have e : (icells Z).set k (.int .i64 m) = icells (Z.set k m) := by simp [icells, List.map_set]
  rw [e] at p1
  exact ⟨h.low.grown g1 h.low.size (fun j hj => owns_ge h.own (by simpa [Value.ownBlock] using hj)), p1⟩
theorem Ls.len {w u : World} {g n : Nat} {Z : List Int} (h : Ls w g n Z u) : Z.length = n := by
  have := h.own.1
  rw [icells_length, Nat.mul_one] at this
  exact this
theorem Ls.at {w u : World} {g n : Nat} {Z : List Int} (h : Ls w g n Z u) {k : Nat} {z : Int} (hz : Z[k]? = some z) : u.cell? ⟨g, k, none⟩ = some (.int .i64 z) := by
  have hl := (List.getElem?_eq_some_iff.1 hz).1
  rw [h.len] at hl
  rw [h.own.cellAt k (by omega)]
  simp [icells, hz]
theorem low_grown {w u : World} (h : Low w u) (r : Option Nat) : w.grownBy u r := ⟨Below.os h, Below.tape h, Below.output h, Below.size h, fun k hk _ => Below.block h k hk⟩
theorem grown_set (u : World) (g j : Nat) (v : Value) : u.grownBy (u.setCell ⟨g, j, none⟩ v) (some g) := ⟨rfl, rfl, rfl, (KeepsWalks.setCell u _ v).size, fun k _ hk => Below.heap_setCell _ _ _ k (fun e => hk (by rw [e]))⟩
theorem ls_other {W0 u : World} {n : Nat} {K : List Int} {G : Nat} (h : Ls W0 G n K u) {g : Nat} (hg : G ≠ g) (hw : W0.heap.size ≤ g) (j : Nat) (v : Value) : Ls W0 G n K (u.setCell ⟨g, j, none⟩ v) :=
  ⟨h.low.grown (grown_set u g j v) h.low.size (fun q hq => by cases hq; exact hw), h.own.kept (grown_set u g j v) (.inr (fun e => by simp [Value.ownBlock] at e; omega))⟩
theorem grown_new {w u : World} {r : Option Nat} (h : w.grownBy u r) {B : Nat} (hB : w.heap.size ≤ B) (j : Nat) (v : Value) : w.grownBy (u.setCell ⟨B, j, none⟩ v) r :=
  ⟨h.os, h.tape, h.output, Nat.le_trans h.size (grown_set u B j v).size, fun k hk hn => (heap_setCell_other u _ k _ (fun e => by simp at e; omega)).trans (h.block k hk hn)⟩
theorem grown_drewN {w u : World} {r : Option Nat} (h : w.grownBy u r) (k : Nat) : w.grownBy (u.drewN k) r := ⟨h.os, h.tape, h.output, h.size, h.block⟩
end Go.Proofs.YtkmgblnofapccaaDoor

/- Hunks of one's own: a row of them, each with a row of lines of one's own; the reference's Copy, walked. -/
namespace Go.Proofs.YtkmgblnofapccaaDoor
open Go.RowKit

theorem own_lt {u : World} {base : Nat} {e : TypeId} {s : Nat} {v : Value} {n : Nat} {xs : List Value} (h : u.ownsRow base e s v n xs) {g : Nat} (hg : v.ownBlock = some g) : g < u.heap.size := by
  rcases h.2 with ⟨rfl, _⟩ | ⟨b, cap, cur, rfl, _, hb, _⟩
  · cases hg
  · simp [Value.ownBlock] at hg
    subst hg
    exact (Array.getElem?_eq_some_iff.1 hb).1
theorem own_ne {u : World} {base base' : Nat} {e e' : TypeId} {s s' : Nat} {v v' : Value} {n n' : Nat} {xs xs' : List Value} (h : u.ownsRow base e s v n xs) (h' : u.ownsRow base' e' s' v' n' xs') (he : e ≠ e') {g : Nat} (hg : v.ownBlock = some g) : v'.ownBlock ≠ some g := by
  intro hg'
  rcases h.2 with ⟨rfl, _⟩ | ⟨b, cap, cur, rfl, _, hb, _⟩
  · cases hg
  · rcases h'.2 with ⟨rfl, _⟩ | ⟨b', cap', cur', rfl, _, hb', _⟩
    · cases hg'
    · simp [Value.ownBlock] at hg hg'
      subst hg hg'
      rw [hb] at hb'
      simp at hb'
      exact he hb'.2
theorem hkC_one (x : Hk) {o : Option Addr} {n c : Nat} : ∀ u ∈ hkC x (.slice o n c), u.oneCell' = true := by
  intro u hu
  simp only [hkC, List.mem_cons, List.not_mem_nil, or_false] at hu
  rcases hu with rfl | rfl | rfl | rfl | rfl <;> rfl
end Go.Proofs.YtkmgblnofapccaaDoor

/- The code's small functions of layer 11, walked: the lines of a side, numbers, places, signs. -/
namespace Go.Proofs.YtkmgblnofapccaaDoor
open Go.RowKit

/-- which sign a side has, and which it has not -/
def Sd (sg no : Int) : Prop := sg = 45 ∧ no = 43 ∨ sg = 43 ∧ no = 45
theorem sd_iff {sg no : Int} (h : Sd sg no) (s : Int) : (s ≠ no ∧ okS s = true) ↔ (s = 32 ∨ s = sg) := by
  simp only [okS, Bool.or_eq_true, decide_eq_true_eq]
  rcases h with ⟨rfl, rfl⟩ | ⟨rfl, rfl⟩ <;> omega
theorem pk_take {sg no : Int} (h : Sd sg no) {s : Int} (hs : s = 32 ∨ s = sg) {out R : List (List UInt8)} {tx : List UInt8} {l : List Mk} (hI : out ++ (if s ≠ no ∧ okS s = true then tx :: pkL no l else pkL no l) = R) : out ++ [tx] ++ pkL no l = R := by
  rw [if_pos ((sd_iff h s).2 hs)] at hI
  rw [← hI]
  simp
theorem pk_pass {sg no : Int} (h : Sd sg no) {s : Int} (h1 : s ≠ 32) (h2 : s ≠ sg) {out R : List (List UInt8)} {tx : List UInt8} {l : List Mk} (hI : out ++ (if s ≠ no ∧ okS s = true then tx :: pkL no l else pkL no l) = R) : out ++ pkL no l = R := by
  rw [if_neg (fun q => by rcases (sd_iff h s).1 q with q | q <;> contradiction)] at hI
  exact hI

theorem owns_less {u : World} {base base' : Nat} {e : TypeId} {s : Nat} {v : Value} {n : Nat} {xs : List Value} (h : u.ownsRow base e s v n xs) (hb : base' ≤ base) : u.ownsRow base' e s v n xs := by
  refine ⟨h.1, ?_⟩
  rcases h.2 with q | ⟨b, cap, cur, rfl, q2, q3, q4⟩
  · exact .inl q
  · exact .inr ⟨b, cap, cur, rfl, Nat.le_trans hb q2, q3, q4⟩

/-- may a hunk say that number of its lines? -/
def nmB (a n : Int) : Bool := nat31 a && nat31 n && !(decide (a = 0) && decide (0 < n))
/-- is a line changed? is its sign none? -/
def chgB (m : Mk) : Bool := decide (m.sg = 45) || decide (m.sg = 43)
end Go.Proofs.YtkmgblnofapccaaDoor

/- SameStrings of the reference, walked at two slices that hold the same. -/
namespace Go.Proofs.YtkmgblnofapccaaDoor
open Go.RowKit

set_option maxHeartbeats 1000000 in
theorem SameS_any (va vb : Value) (l : List (List UInt8)) (w : World) (hlen : l.length ≤ 4398046511104) (ha : HS w va l) (hb : HS w vb l) :
    Calls Tryd.prog 8 #[va, vb] w fun e w' => e = .returned (.bool true) ∧ Below w.heap.size w w' := by
  obtain ⟨ao, ca, rfl⟩ := Holds.form ha
  obtain ⟨bo, cb, rfl⟩ := Holds.form hb
  go_enter Tryd.func8, Tryd.ntmps8
  go_wp2
  go_loopw [5] (fun i wr => ∃ k m : Nat, k ≤ l.length ∧ i = .int .i64 k ∧ wr = w.drewN m) (fun i _ => l.length - (intOf i).toNat)
  case atStart => exact ⟨0, 0, Nat.zero_le _, rfl, rfl⟩
  case round =>
    obtain ⟨k, m, hk, rfl, rfl⟩ := hrel
    by_cases hlt : k < l.length
    · obtain ⟨b1, o1, rfl, _, hc1⟩ := HS.at ha (by omega)
      obtain ⟨b2, o2, rfl, _, hc2⟩ := HS.at hb (by omega)
      have d1 := hc1 k hlt
      have d2 := hc2 k hlt
      clear hc1 hc2
      have i1 : 0 ≤ (k : Int) := by omega
      have i2 : (k : Int) < (l.length : Int) := by omega
      go_wp2_with fail
      go_quiet (fail)
      go_wp2
      go_roundw
      case rel => exact ⟨k + 1, _, by omega, by go_num, rfl⟩
      case measure => simp [intOf]; omega
    · go_wp2
      go_ret
      exact ⟨rfl, Below.dN (Below.refl _ w) _⟩

end Go.Proofs.YtkmgblnofapccaaDoor

/- What a script makes of a text: the reference's Apply, walked. -/
namespace Go.Proofs.YtkmgblnofapccaaDoor
open Go.RowKit
attribute [local simp] st_drew low_drew

theorem run_cut_to (A : List (List UInt8)) (ao : Option Addr) (cap : Nat) (i h : Int) (h0 : 0 ≤ i) (h1 : i ≤ h) (h2 : h ≤ A.length) (w : World) (hA : HS w (.slice ao A.length cap) A) :
    ∃ vo vc, (∀ u : World, (Instr.slice 23 (.slice ao A.length cap) (some (.int .i64 i)) (some (.int .i64 h)) none).run Tryd.prog u = .ok (.slice vo (cut A i (h - i)).length vc) u) ∧ (∀ u : World, HS u (.slice ao A.length cap) A → HS u (.slice vo (cut A i (h - i)).length vc) (cut A i (h - i))) := by
  obtain ⟨vs, h3, h4⟩ := run_cut A ao cap i (h - i) h0 (by omega) (by omega) w hA
  obtain ⟨vo, vc, rfl⟩ := Holds.form (h4 w hA)
  have e : i + (h - i) = h := by omega
  rw [e] at h3
  exact ⟨vo, vc, h3, h4⟩
theorem run_cut_end (A : List (List UInt8)) (ao : Option Addr) (cap : Nat) (i : Int) (h0 : 0 ≤ i) (h1 : i ≤ A.length) (w : World) (hA : HS w (.slice ao A.length cap) A) :
    ∃ vo vc, (∀ u : World, (Instr.slice 23 (.slice ao A.length cap) (some (.int .i64 i)) none none).run Tryd.prog u = .ok (.slice vo (cut A i (A.length - i)).length vc) u) ∧ (∀ u : World, HS u (.slice ao A.length cap) A → HS u (.slice vo (cut A i (A.length - i)).length vc) (cut A i (A.length - i))) := by
  obtain ⟨vo, vc, h3, h4⟩ := run_cut_to A ao cap i A.length h0 h1 (Int.le_refl _) w hA
  refine ⟨vo, vc, fun u => ?_, h4⟩
  rw [← h3 u]
  have hcap : A.length ≤ cap := by
    rcases hA with ⟨h, h3, _⟩ | ⟨ad, c, h, h3, _⟩
    · omega
    · cases h; exact h3
  rw [run_slice_l (P := Tryd.prog) u 23 ao A.length cap (by kernel_rfl) .i64 i h0 h1, run_slice_lh (P := Tryd.prog) u 23 ao A.length cap (by kernel_rfl) .i64 .i64 i A.length h0 h1 (by omega)]
  simp

theorem piecesL_length (a b n m : Int) (l : List Ch) : (piecesL a b n m l).length = l.length + 1 := by
  induction l generalizing a b with
  | nil => rfl
  | cons c l ih => simp [piecesL, ih]
theorem applyL_length (l : List Ch) (A B : List (List UInt8)) : (applyL l A B).length ≤ (l.length + 1) * (A.length + B.length) := by
  rw [← piecesL_length 0 0 A.length B.length l]
  unfold applyL
  generalize piecesL 0 0 A.length B.length l = ps
  induction ps with
  | nil => simp
  | cons x t ih =>
    have h1 : (pa A B x).length ≤ A.length + B.length := by simp [pa, cut]; omega
    simp only [List.flatMap_cons, List.length_append, List.length_cons]
    rw [Nat.add_mul]
    omega
/-- what the rest of a script makes -/
def restA (A B : List (List UInt8)) (a b : Int) (l : List Ch) : List (List UInt8) := (piecesL a b A.length B.length l).flatMap (pa A B)
theorem restA_cons (A B : List (List UInt8)) (a b : Int) (c : Ch) (l : List Ch) : restA A B a b (c :: l) = cut A a (c.A - a) ++ cut B c.B c.BN ++ restA A B (c.A + c.AN) (c.B + c.BN) l := by simp [restA, piecesL, pa]
theorem restA_nil (A B : List (List UInt8)) (a b : Int) : restA A B a b [] = cut A a (A.length - a) := by simp [restA, piecesL, pa, cut]

end Go.Proofs.YtkmgblnofapccaaDoor

/- What an argument of type []int, []api.Change holds, and how much of it there is by the statement's own count. -/
namespace Go.Proofs.YtkmgblnofapccaaDoor
open Go.ChangeShapes Go.WideShapes Go.ChangeAt Go.RowKit

theorem own : ownKnob Tryd.prog.godebug = none := by kernel_rfl
theorem laidOut : laidOutB Tryd.prog = true := by kernel_rfl
theorem cellsInt : Tryd.prog.cellsOf 3 = 1 := by kernel_rfl
theorem cellsCh : Tryd.prog.cellsOf 43 = 4 := by kernel_rfl

/-- numbers that an int holds -/
def w64 (z : Int) : Prop := -9223372036854775808 ≤ z ∧ z ≤ 9223372036854775807
theorem w64_of {z : Int} (h : (Lit.int .i64 z).wf = true) : w64 z := bounds_i64 h
/-- a change of numbers that an int holds -/
def wCh (c : Ch) : Prop := w64 c.A ∧ w64 c.AN ∧ w64 c.B ∧ w64 c.BN

theorem lits_len {H : Type} (l : List Int) : l.length ≤ Rows.uptoBulkAll (lits (H := H) .i64 l) := by
  induction l with
  | nil => simp [lits, Rows.uptoBulkAll]
  | cons s t ih =>
    have e : lits (H := H) .i64 (s :: t) = .lit (.int .i64 s) :: lits .i64 t := rfl
    rw [e]
    simp only [Rows.uptoBulkAll, Rows.uptoBulk, List.length_cons]
    omega

theorem bulk_range {H : Type} (D : Nat → DataW H) (n : Nat) (h : ∀ i, i < n → 1 ≤ Rows.uptoBulk (D i)) : n ≤ Rows.uptoBulkAll ((List.range n).map D) := by
  have hall : ∀ l : List (DataW H), (∀ d ∈ l, 1 ≤ Rows.uptoBulk d) → l.length ≤ Rows.uptoBulkAll l := by
    intro l
    induction l with
    | nil => simp
    | cons d t ih =>
      intro hd
      have h1 := hd d (List.mem_cons_self ..)
      have h2 := ih fun x hx => hd x (List.mem_cons_of_mem _ hx)
      rw [Rows.uptoBulkAll]
      simp only [List.length_cons]
      omega
  have := hall ((List.range n).map D) (by
    intro d hd
    simp only [List.mem_map, List.mem_range] at hd
    obtain ⟨i, hi, rfl⟩ := hd
    exact h i hi)
  simpa using this

set_option maxRecDepth 10000 in
/-- the changes that an argument holds -/
theorem open_chs {H : Type} {enc : TypeId × Value → H} {W : World} {fuel : Nat} {ao : Option Addr} {len cap : Nat} {d : DataW H} {p : List MemPlace}
    (h : DataW.trod enc Tryd.prog W 0 (fun _ => true) true fuel 22 [.slice ao len cap] = some (d, p)) :
    ∃ l : List Ch, HCh W (.slice ao len cap) l ∧ l.length ≤ Rows.uptoBulk d ∧ ∀ c ∈ l, wCh c := by
  rcases Go.Deep.open_slice Tryd.underlying22 h with ⟨hcs, hx⟩ | ⟨a, l, c, m, n, D, Pl, hcs, _, hl, hm, hmm, hx, hel⟩
  · simp at hcs
    obtain ⟨rfl, rfl, rfl⟩ := hcs
    exact ⟨[], .inl ⟨rfl, rfl, rfl⟩, by simp, by simp⟩
  · simp at hcs
    obtain ⟨rfl, rfl, rfl⟩ := hcs
    simp only [Prod.mk.injEq] at hx
    obtain ⟨rfl, _⟩ := hx
    have hlm : len ≤ m := by rw [hmm]; split <;> omega
    have each : ∀ i, i < len → ∃ c : Ch, wCh c ∧ W.cell? (a.add (i * 4)) = some (.int .i64 c.A) ∧ W.cell? (a.add (i * 4 + 1)) = some (.int .i64 c.AN) ∧ W.cell? (a.add (i * 4 + 2)) = some (.int .i64 c.B) ∧ W.cell? (a.add (i * 4 + 3)) = some (.int .i64 c.BN) ∧ 1 ≤ Rows.uptoBulk (D i) := by
      intro i hi
      obtain ⟨cs', h1, h2⟩ := hel i (by omega)
      rw [cellsCh] at h1
      obtain ⟨_, hlen, hcell⟩ := World.cells?_some h1
      obtain ⟨xs, k, hk, hxy, _, hxl, hf⟩ := DataW.trod_struct Tryd.underlying43 h2
      match xs, hxl, cs', hlen with
      | [y0, y1, y2, y3], _, [v0, v1, v2, v3], _ =>
        have g0 := hf 0 _ rfl
        have g1 := hf 1 _ rfl
        have g2 := hf 2 _ rfl
        have g3 := hf 3 _ rfl
        simp [cellsInt] at g0 g1 g2 g3
        obtain ⟨z0, e0, _, w0⟩ := DataW.trod_int Tryd.underlying3 g0
        obtain ⟨z1, e1, _, w1⟩ := DataW.trod_int Tryd.underlying3 g1
        obtain ⟨z2, e2, _, w2⟩ := DataW.trod_int Tryd.underlying3 g2
        obtain ⟨z3, e3, _, w3⟩ := DataW.trod_int Tryd.underlying3 g3
        cases e0
        cases e1
        cases e2
        cases e3
        have c0 := hcell 0 (by omega)
        have c1 := hcell 1 (by omega)
        have c2 := hcell 2 (by omega)
        have c3 := hcell 3 (by omega)
        rw [Go.Deep.add_add] at c0 c1 c2 c3
        simp only [Prod.mk.injEq] at hxy
        refine ⟨⟨z0, z1, z2, z3⟩, ⟨w64_of w0, w64_of w1, w64_of w2, w64_of w3⟩, by simpa using c0, by simpa using c1, by simpa using c2, by simpa using c3, ?_⟩
        rw [hxy.1, Rows.uptoBulk]
        omega
    have : Inhabited Ch := ⟨⟨0, 0, 0, 0⟩⟩
    obtain ⟨f, hf⟩ := Go.Deep.choose_lt each
    have hlen : ((List.range len).map f).length = len := by simp
    refine ⟨(List.range len).map f, .inr ⟨a, cap, by rw [hlen], by rw [hlen]; exact hl, fun j u hj => ?_⟩, ?_, ?_⟩
    · have hj' : j < len * 4 := by
        have := (List.getElem?_eq_some_iff.1 hj).1
        rw [chcells_length, hlen] at this
        exact this
      obtain ⟨h0, h1, h2, h3⟩ := chcells_at ((List.range len).map f) (j / 4) (by rw [hlen]; omega)
      obtain ⟨_, g0, g1, g2, g3, _⟩ := hf (j / 4) (by omega)
      simp only [List.getElem_map, List.getElem_range] at h0 h1 h2 h3
      rcases (by omega : j = 4 * (j / 4) ∨ j = 4 * (j / 4) + 1 ∨ j = 4 * (j / 4) + 2 ∨ j = 4 * (j / 4) + 3) with e | e | e | e
      · rw [e, h0] at hj
        rw [e, Nat.mul_comm, g0, hj]
      · rw [e, h1] at hj
        rw [e, Nat.mul_comm, g1, hj]
      · rw [e, h2] at hj
        rw [e, Nat.mul_comm, g2, hj]
      · rw [e, h3] at hj
        rw [e, Nat.mul_comm, g3, hj]
    · rw [hlen, Rows.uptoBulk]
      have := bulk_range D len fun i hi => (hf i hi).2.2.2.2.2
      omega
    · intro c hc
      simp only [List.mem_map, List.mem_range] at hc
      obtain ⟨i, hi, rfl⟩ := hc
      exact (hf i hi).1
end Go.Proofs.YtkmgblnofapccaaDoor

/- What an argument of type []string holds, and how much of it there is by the statement's own count. -/
namespace Go.Proofs.YtkmgblnofapccaaDoor
open Go.ChangeShapes Go.WideShapes Go.ChangeAt Go.RowKit

theorem cellsStr : Tryd.prog.cellsOf 9 = 1 := by kernel_rfl
theorem strs_bulk {H : Type} (l : List ByteArray) : l.length + (l.map fun s => s.data.toList).flatten.length ≤ Rows.uptoBulkAll (strs (H := H) l) := by
  induction l with
  | nil => simp [strs, Rows.uptoBulkAll]
  | cons s t ih =>
    have e : strs (H := H) (s :: t) = .lit (.string s.data.toList) :: strs t := rfl
    rw [e, Rows.uptoBulkAll, Rows.uptoBulk]
    simp only [List.length_cons, List.map_cons, List.flatten_cons, List.length_append] at ih ⊢
    omega

/-- the texts that an argument holds -/
theorem open_texts {H : Type} {enc : TypeId × Value → H} {W : World} {fuel : Nat} {ao : Option Addr} {len cap : Nat} {d : DataW H} {p : List MemPlace}
    (h : DataW.trod enc Tryd.prog W 0 (fun _ => true) true fuel 23 [.slice ao len cap] = some (d, p)) :
    ∃ ws : List (List UInt8), HS W (.slice ao len cap) ws ∧ ws.length + ws.flatten.length ≤ Rows.uptoBulk d := by
  rcases open_strings Tryd.underlying23 Tryd.underlying9 cellsStr h with ⟨hcs, hx⟩ | ⟨a, l, c, ss, hcs, _, hl, hm, hz, hx, hcell, _⟩
  · simp at hcs
    obtain ⟨rfl, rfl, rfl⟩ := hcs
    exact ⟨[], .inl ⟨rfl, rfl, rfl⟩, by simp⟩
  · simp at hcs
    obtain ⟨rfl, rfl, rfl⟩ := hcs
    simp at hz
    simp only [Prod.mk.injEq] at hx
    obtain ⟨rfl, _⟩ := hx
    have hlen : ((ss.take len).map fun s => s.data.toList).length = len := by simp; omega
    refine ⟨(ss.take len).map fun s => s.data.toList, .inr ⟨a, cap, by rw [hlen], by omega, fun j u hj => ?_⟩, ?_⟩
    · have hj' : j < len := by
        have := (List.getElem?_eq_some_iff.1 hj).1
        rw [scells_length, hlen] at this
        exact this
      rw [hcell j (by omega)]
      have hjs : j < ss.length := by omega
      simp [scells, hj', hjs] at hj
      simp [List.getD, hjs, ← hj]
    · have := strs_bulk (H := H) (ss.take len)
      rw [Rows.uptoBulk]
      simp only [List.length_map] at this ⊢
      omega
end Go.Proofs.YtkmgblnofapccaaDoor

/- Append onto a new row of what an argument holds, whether it is nil or not. -/
namespace Go.Proofs.YtkmgblnofapccaaDoor
open Go.RowKit

theorem ef_append_w (w : World) (T E ty : TypeId) (z : Value) (size bytes : Nat) (hT : Tryd.prog.underlying T = some (.slice E)) (hinfo : (Tryd.prog.info? E).map (fun i => (i.zero, i.size, i.bytes)) = some (some z, size, bytes)) (hz1 : z.cells.size = size) (hsz : 0 < size) (hby : bytes ≤ 64)
    (base : Nat) (v : Value) (k : Nat) (xs : List Value) (hown : w.ownsRow base E size v k xs) (vx : Value) (m : Nat) (news : List Value) (hh : Holds w vx m news) (hl : news.length = m * size)
    (h1 : ∀ u ∈ news, u.oneCell' = true) (hk : k + m ≤ 2199023255552) (hbase : base ≤ w.heap.size) :
    ∃ v' w', (Builtin.append_ #[T, T] ty #[v, vx]).run Tryd.prog w = .ok v' w' ∧ w'.ownsRow base E size v' (k + m) (xs ++ news) ∧ w.grownBy w' v.ownBlock ∧ (v'.ownBlock = v.ownBlock ∨ v'.ownBlock = some w.heap.size) := by
  obtain ⟨i0, hi0, hz0, hzs, hz2⟩ := info_parts hinfo
  rcases hh with ⟨rfl, rfl, rfl⟩ | ⟨ad, c, rfl, _, hc⟩
  · exact ⟨v, w, run_append_owned_none (P := Tryd.prog) (w := w) base T ty E i0 size hT hi0 v k xs hown, by simpa using hown, World.grownBy.refl _ _, .inl rfl⟩
  · obtain ⟨v', w', hr, h2, h3, _, h5⟩ := run_append_own_at (P := Tryd.prog) w base T ty E i0 z size bytes hT hi0 hz0 hzs hz2 hz1 hsz v k xs hown ad m c news hl hc h1 (by unfold maxLen; omega) (by
      have : (k + m) * bytes ≤ (k + m) * 64 := Nat.mul_le_mul_left _ hby
      omega) hbase
    exact ⟨v', w', hr, h2, h3, h5⟩
theorem wpList_ef_append {ops : Array Oper} {rest : List Oper} {o : Oper} {a : Act} {Q : Exit → Act → World → Prop} (w : World) (hw : Region.wanted o (yielded ops a.tmps) = true) (s x : Operand) (T E : TypeId) (z : Value) (size bytes : Nat)
    (ho : o.op = .call { callee := .builtin .append, args := #[s, x], argTypes := #[T, T] }) (hT : Tryd.prog.underlying T = some (.slice E)) (hinfo : (Tryd.prog.info? E).map (fun i => (i.zero, i.size, i.bytes)) = some (some z, size, bytes)) (hz1 : z.cells.size = size) (hsz : 0 < size) (hby : bytes ≤ 64)
    (base : Nat) (v : Value) (k : Nat) (xs : List Value) (hs : a.eval s = v) (hown : w.ownsRow base E size v k xs) (vx : Value) (m : Nat) (news : List Value) (hx : a.eval x = vx) (hh : Holds w vx m news) (hl : news.length = m * size)
    (h1 : ∀ u ∈ news, u.oneCell' = true) (hk : k + m ≤ 2199023255552) (hbase : base ≤ w.heap.size)
    (h : ∀ v' w', w'.ownsRow base E size v' (k + m) (xs ++ news) → w.grownBy w' v.ownBlock → (v'.ownBlock = v.ownBlock ∨ v'.ownBlock = some w.heap.size) → wpList Tryd.prog ops Q rest (a.put o.dst v') w') : wpList Tryd.prog ops Q (o :: rest) a w := by
  refine wpList_step fun K hK => ?_
  rw [if_pos hw]
  obtain ⟨v', w', hr, h2, h3, h4⟩ := ef_append_w w T E o.type z size bytes hT hinfo hz1 hsz hby base v k xs hown vx m news hh hl h1 hk hbase
  unfold Oper.wp
  simp [execOp, ho, resolve, invoke, builtin, hs, hx, hr, Result.andThen]
  exact hK _ _ (h v' w' h2 h3 h4)
theorem mem_flatE {a : List (List UInt8)} {t : List UInt8} (h : t ∈ a) : t.length ≤ a.flatten.length := by
  induction a with
  | nil => cases h
  | cons s a ih =>
    rw [List.flatten_cons, List.length_append]
    rcases List.mem_cons.1 h with rfl | h
    · omega
    · have := ih h
      omega
end Go.Proofs.YtkmgblnofapccaaDoor
