/-
  Texts that belong together, joined: EdOwn, EdKeep, EdWalk, PcLs, EdDrew, EdRChk, HuRow, HuRf1, HuRf2, HuRf3, PcReg.
-/
import Derived.Test.YtgiojkhmkeocfaaDoorPartA3
import Derived.Deep.RegionHeld3
import Derived.Laws.Rows
import Derived.Test.YtgiojkhmkeocfaaDoorPartA2

/- A row of the caller's own, in a box, within a range over the iterator. -/
namespace Go.Proofs.YtgiojkhmkeocfaaDoor
open Go.RowKit Go.Shelf
attribute [local go_sem] Oper.semAt_some

theorem wpListIn_append_h {F : Fence} {n : Nat} (w : World) {ops : Array Oper} {rest : List Oper} {o : Oper} {a : Act} {Q : Exit → Act → World → Prop}
    (hg : o.guard = none) (s x : Operand) (T E : TypeId) (ho : o.op = Op.call { callee := Callee.builtin Builtin.append, args := #[s, x], argTypes := #[T, T] })
    (z : Value) (size bytes : Nat) (hT : Tryd.prog.underlying T = some (.slice E)) (hinfo : (Tryd.prog.info? E).map (fun i => (i.zero, i.size, i.bytes)) = some (some z, size, bytes)) (hz1 : z.cells.size = size) (hsz : 0 < size) (hby : bytes ≤ 32)
    (base : Nat) (v : Value) (k : Nat) (xs : List Value) (hs : a.eval s = v) (hown : w.ownsRow base E size v k xs) (vx : Value) (m : Nat) (news : List Value) (hx : a.eval x = vx) (hh : Holds w vx m news) (hl : news.length = m * size)
    (h1 : ∀ u ∈ news, u.oneCell' = true) (hk : k + m ≤ 4398046511104) (hbase : base ≤ w.heap.size)
    (h : ∀ v' w', w'.ownsRow base E size v' (k + m) (xs ++ news) → w.grownBy w' v.ownBlock → (v'.ownBlock = v.ownBlock ∨ v'.ownBlock = some w.heap.size) → wpListIn F n Tryd.prog ops Q rest (a.put o.dst v') w') :
    wpListIn F n Tryd.prog ops Q (o :: rest) a w := by
  refine wpListIn_plain hg fun K hK' => ?_
  obtain ⟨i0, hi, hz0, hzs, hz2⟩ := info_parts hinfo
  have hrun : ∃ v' w', (Builtin.append_ #[T, T] o.type #[v, vx]).run Tryd.prog w = .ok v' w' ∧ w'.ownsRow base E size v' (k + m) (xs ++ news) ∧ w.grownBy w' v.ownBlock ∧ (v'.ownBlock = v.ownBlock ∨ v'.ownBlock = some w.heap.size) := by
    rcases hh with ⟨rfl, rfl, rfl⟩ | ⟨ad, c, rfl, _, hc⟩
    · exact ⟨v, w, run_append_owned_none (P := Tryd.prog) (w := w) base T o.type E i0 size hT hi v k xs hown, by simpa using hown, World.grownBy.refl _ _, .inl rfl⟩
    · obtain ⟨v', w', hr, h2, h3, _, h5⟩ := run_append_own_at (P := Tryd.prog) w base T o.type E i0 z size bytes hT hi hz0 hzs hz2 hz1 hsz v k xs hown ad m c news hl hc h1 (by unfold maxLen; omega) (by
        have : (k + m) * bytes ≤ (k + m) * 32 := Nat.mul_le_mul_left _ hby
        omega) hbase
      exact ⟨v', w', hr, h2, h3, h5⟩
  obtain ⟨v', w', hrun, r1, r2, r3⟩ := hrun
  unfold Oper.wpIn
  refine ⟨?_, ?_⟩
  · simp [Oper.about, ho, resolve, Target.leads, Sem.run_pure]
  · rw [Oper.semAt_plain F _ _ (by rw [ho]; intro c hc'; cases hc')]
    simp [execOp, ho, resolve, invoke, builtin, hs, hx, hrun, Result.andThen]
    exact hK' _ _ (h v' w' r1 r2 r3)

theorem new_holds (W : World) (cs : Array Value) (e : TypeId) (k c : Nat) (hkc : k ≤ c) : Holds (W.alloc (.cells cs e)) (.slice (some ⟨W.heap.size, 0, none⟩) k c) k cs.toList := by
  refine .inr ⟨_, _, rfl, hkc, fun j u hj => ?_⟩
  rw [add_none, Lib.cell_of_heap (_root_.Go.heap_alloc_new W _)]
  simpa using hj
/-- a row of the caller's own, in a box of his; the row lies apart from the iterator's boxes -/
structure OwnR (n₀ lo B : Nat) (t e : TypeId) (s : Nat) (v : Value) (k : Nat) (xs : List Value) (W : World) : Prop where
  box : Boxed W B t v
  row : W.ownsRow n₀ e s v k xs
  far : ∀ g, v.ownBlock = some g → g < lo ∨ lo + 3 ≤ g
section
variable {n₀ lo B : Nat} {t e : TypeId} {s : Nat} {v : Value} {k : Nat} {xs : List Value} {W : World}
theorem OwnR.alloc (h : OwnR n₀ lo B t e s v k xs W) (o : Obj) : OwnR n₀ lo B t e s v k xs (W.alloc o) := ⟨h.box.alloc o, h.row.alloc o, h.far⟩
theorem OwnR.appended {w1 : World} {v' : Value} {m : Nat} {ys : List Value} (h : OwnR n₀ lo B t e s v k xs W) (hte : t ≠ e) (htC : t ≠ 73) (heC : e ≠ 73) (hn : n₀ ≤ B) (hB : B < lo) (hsz : lo + 3 ≤ W.heap.size)
    (hown' : w1.ownsRow n₀ e s v' m ys) (hgrow : W.grownBy w1 v.ownBlock) (hp : v'.ownBlock = v.ownBlock ∨ v'.ownBlock = some W.heap.size) :
    Boxed w1 B t v ∧ OwnR n₀ lo B t e s v' m ys (w1.setCell ⟨B, 0, none⟩ v') ∧ KeepsOthers W (w1.setCell ⟨B, 0, none⟩ v') ∧ Kp n₀ lo W (w1.setCell ⟨B, 0, none⟩ v') ∧
      ∀ (j : Nat) (cs : Array Value) (u : TypeId), W.heap[j]? = some (Obj.cells cs u (0, 0)) → u ≠ t → u ≠ e → (w1.setCell ⟨B, 0, none⟩ v').heap[j]? = some (Obj.cells cs u (0, 0)) := by
  have hv1 : Boxed w1 B t v := h.box.kept hgrow (h.box.not_row hte h.row)
  have hset := grownBy_setCell' w1 B v'
  have hrow : ∀ j, v.ownBlock = some j → ∃ cur, W.heap[j]? = some (.cells cur e (0, 0)) ∧ n₀ ≤ j := by
    intro j ej
    rcases h.row.2 with ⟨rfl, _⟩ | ⟨g, cap, cur, rfl, hb, hgb, _⟩
    · simp [Value.ownBlock] at ej
    · obtain rfl : g = j := by simpa [Value.ownBlock] using ej
      exact ⟨cur, hgb, hb⟩
  have hall : ∀ (j : Nat) (cs : Array Value) (u : TypeId), W.heap[j]? = some (Obj.cells cs u (0, 0)) → u ≠ t → u ≠ e → (w1.setCell ⟨B, 0, none⟩ v').heap[j]? = some (Obj.cells cs u (0, 0)) := by
    intro j cs u hj hut hue
    have hlt := (Array.getElem?_eq_some_iff.1 hj).1
    have e1 : w1.heap[j]? = W.heap[j]? := hgrow.block j hlt (fun ej => by
      obtain ⟨cur, hc, _⟩ := hrow j ej.symm
      rw [hj] at hc
      cases hc
      exact hue rfl)
    refine (hset.block j (Nat.lt_of_lt_of_le hlt hgrow.size) (fun ej => ?_)).trans (e1.trans hj)
    cases ej
    have := h.box
    unfold Boxed at this
    rw [hj] at this
    cases this
    exact hut rfl
  refine ⟨hv1, ⟨hv1.set v', hown'.kept hset (.inr (hv1.not_row hte hown').symm), fun g hg => ?_⟩, ?_, ⟨?_, ?_, fun j cs hj => hall j cs _ hj (Ne.symm htC) (Ne.symm heC)⟩, hall⟩
  · rcases hp with hp | hp
    · exact h.far g (hp ▸ hg)
    · rw [hp] at hg
      cases hg
      exact .inr hsz
  · refine (KeepsOthers.of_grownBy hgrow fun j o ej hj => ?_).trans (KeepsOthers.setCell _ _ _)
    obtain ⟨cur, hc, _⟩ := hrow j ej
    rw [hc] at hj
    cases hj
    rfl
  · refine ((Below.refl n₀ W).grown hgrow (by omega) fun j ej => ?_).setCell (p := ⟨B, 0, none⟩) hn v'
    obtain ⟨_, _, h2⟩ := hrow j ej
    exact h2
  · intro j h1 h2
    have e1 : W.heap[j]? = w1.heap[j]? := (hgrow.block j (by omega) (fun ej => by have := h.far j ej.symm; omega)).symm
    rw [e1]
    exact hset.block j (Nat.lt_of_lt_of_le (by omega) hgrow.size) (fun ej => by cases ej; omega)
theorem boxes3 (u : World) (x y z : Value) (W0 : World) (h : ((u.alloc (.cells #[x] 22)).alloc (.cells #[y] 3)).alloc (.cells #[z] 3) = W0) :
    W0.heap.size = u.heap.size + 3 ∧ Boxed W0 u.heap.size 22 x ∧ Boxed W0 (u.heap.size + 1) 3 y ∧ Boxed W0 (u.heap.size + 1 + 1) 3 z ∧ Below u.heap.size u W0 := by
  subst h
  have b1 := Boxed.new (u.alloc (.cells #[x] 22)) 3 y
  have b2 := Boxed.new ((u.alloc (.cells #[x] 22)).alloc (.cells #[y] 3)) 3 z
  rw [World.size_alloc] at b1
  rw [World.size_alloc, World.size_alloc] at b2
  exact ⟨by simp, ((Boxed.new u 22 x).alloc _).alloc _, b1.alloc _, b2, (((Below.refl _ u).alloc (Nat.le_refl _) _).alloc (by simp) _).alloc (by simp; omega) _⟩
theorem ownR_own {β : Type} {A : Nat} {w0 : World} (hn : n₀ ≤ w0.heap.size) (hA : n₀ ≤ A) (kk : β → Nat) (f : β → List Value) : OwnFrom A (fun (x : β) W => (∃ v, OwnR n₀ lo B t e s v (kk x) (f x) W) ∧ Below n₀ w0 W) := by
  refine OwnFrom.and (Own.from ?_ _) (ownFrom_below hn hA)
  have := holdsRow_own (β := β) n₀ B t e s kk f (fun _ v => ∀ g, v.ownBlock = some g → g < lo ∨ lo + 3 ≤ g)
  intro x A B row hs hg hr
  obtain ⟨v, ⟨h1, h2, h3⟩⟩ := hs
  obtain ⟨v', q1, q2, q3⟩ := this x A B row ⟨v, h1, h2, h3⟩ hg hr
  exact ⟨v', q1, q2, q3⟩
end
end Go.Proofs.YtgiojkhmkeocfaaDoor

/- What a script keeps: the code's Keep, walked. -/
namespace Go.Proofs.YtgiojkhmkeocfaaDoor
open Go.RowKit Go.Shelf
attribute [local go_sem] Oper.semAt_some


/-- make([]T, 0, n) -/
theorem run_make0 {T E : TypeId} {z : Value} {bytes : Nat} (hT : Tryd.prog.underlying T = some (.slice E)) (hinfo : (Tryd.prog.info? E).map (fun i => (i.zero, i.size, i.bytes)) = some (some z, 1, bytes)) (hby : bytes ≤ 16) (N : Nat) (hN : N ≤ 1099511627776) (W : World) :
    (Instr.makeSlice T (.int .i64 0) (.int .i64 (N : Int))).run Tryd.prog W = .ok (.slice (some ⟨W.heap.size, 0, none⟩) 0 N) (W.alloc (.cells (madeCells z.cells N) E)) := by
  obtain ⟨i0, hi, hz0, hzs, hz2⟩ := info_parts hinfo
  have h1 : i0.bytes * N ≤ 16 * 1099511627776 := by rw [hz2]; exact Nat.mul_le_mul hby hN
  have hr := run_make (P := Tryd.prog) W T E i0 z hT hi hz0 .i64 .i64 0 (N : Int) (Int.le_refl _) (by omega) (by
    have : ((i0.bytes * N : Nat) : Int) ≤ 281474976710656 := by omega
    rwa [Int.natCast_mul] at this) (by omega)
  simpa [hzs] using hr
theorem row_made {E : TypeId} {z : Value} (N : Nat) (hN : N ≤ 1099511627776) (W : World) {base : Nat} (hb : base ≤ W.heap.size) : (W.alloc (.cells (madeCells z.cells N) E)).ownsRow base E 1 (.slice (some ⟨W.heap.size, 0, none⟩) 0 N) 0 [] := by
  have := World.ownsRow_made (size := 1) (e := E) W (madeCells z.cells N) N hb (by unfold maxLen; omega) (by rw [size_madeCells, Nat.mul_one])
  exact this

theorem pk_length {n m : Int} (hn : n ≤ 65536) (x : Pie n m) : (pk x.1).length ≤ 131072 := by
  obtain ⟨x, h1, h2, h3, h4, h5, h6, h7, h8, h9, h10⟩ := x
  simp [pk]
  omega
theorem pks_length {n m : Int} (hn : n ≤ 65536) (pre : List (Pie n m)) : (pre.flatMap fun x => pk x.1).length ≤ pre.length * 131072 := by
  induction pre with
  | nil => simp
  | cons x t ih => have := pk_length hn x; simp only [List.flatMap_cons, List.length_append, List.length_cons]; omega

end Go.Proofs.YtgiojkhmkeocfaaDoor

/- Laws for the plain walk: append onto an owned row of elements of whatever width, as a step of the walk and of a region that draws; Same of numbers, of changes. -/
namespace Go.Proofs.YtgiojkhmkeocfaaDoor
open Go.RowKit

theorem run_append_h (w : World) (T E ty : TypeId) (z : Value) (size bytes : Nat) (hT : Tryd.prog.underlying T = some (.slice E)) (hinfo : (Tryd.prog.info? E).map (fun i => (i.zero, i.size, i.bytes)) = some (some z, size, bytes)) (hz1 : z.cells.size = size) (hsz : 0 < size) (hby : bytes ≤ 32)
    (base : Nat) (v : Value) (k : Nat) (xs : List Value) (hown : w.ownsRow base E size v k xs) (vx : Value) (m : Nat) (news : List Value) (hh : Holds w vx m news) (hl : news.length = m * size)
    (h1 : ∀ u ∈ news, u.oneCell' = true) (hk : k + m ≤ 4398046511104) (hbase : base ≤ w.heap.size) :
    ∃ v' w', (Builtin.append_ #[T, T] ty #[v, vx]).run Tryd.prog w = .ok v' w' ∧ w'.ownsRow base E size v' (k + m) (xs ++ news) ∧ w.grownBy w' v.ownBlock ∧ (v'.ownBlock = v.ownBlock ∨ v'.ownBlock = some w.heap.size) := by
  obtain ⟨i0, hi0, hz0, hzs, hz2⟩ := info_parts hinfo
  rcases hh with ⟨rfl, rfl, rfl⟩ | ⟨ad, c, rfl, _, hc⟩
  · exact ⟨v, w, run_append_owned_none (P := Tryd.prog) (w := w) base T ty E i0 size hT hi0 v k xs hown, by simpa using hown, World.grownBy.refl _ _, .inl rfl⟩
  · obtain ⟨v', w', hr, h2, h3, _, h5⟩ := run_append_own_at (P := Tryd.prog) w base T ty E i0 z size bytes hT hi0 hz0 hzs hz2 hz1 hsz v k xs hown ad m c news hl hc h1 (by unfold maxLen; omega) (by
      have : (k + m) * bytes ≤ (k + m) * 32 := Nat.mul_le_mul_left _ hby
      omega) hbase
    exact ⟨v', w', hr, h2, h3, h5⟩

theorem wpList_append_h {ops : Array Oper} {rest : List Oper} {o : Oper} {a : Act} {Q : Exit → Act → World → Prop} (w : World) (hw : Region.wanted o (yielded ops a.tmps) = true) (s x : Operand) (T E : TypeId) (z : Value) (size bytes : Nat)
    (ho : o.op = .call { callee := .builtin .append, args := #[s, x], argTypes := #[T, T] }) (hT : Tryd.prog.underlying T = some (.slice E)) (hinfo : (Tryd.prog.info? E).map (fun i => (i.zero, i.size, i.bytes)) = some (some z, size, bytes)) (hz1 : z.cells.size = size) (hsz : 0 < size) (hby : bytes ≤ 32)
    (base : Nat) (v : Value) (k : Nat) (xs : List Value) (hs : a.eval s = v) (hown : w.ownsRow base E size v k xs) (vx : Value) (m : Nat) (news : List Value) (hx : a.eval x = vx) (hh : Holds w vx m news) (hl : news.length = m * size)
    (h1 : ∀ u ∈ news, u.oneCell' = true) (hk : k + m ≤ 4398046511104) (hbase : base ≤ w.heap.size)
    (h : ∀ v' w', w'.ownsRow base E size v' (k + m) (xs ++ news) → w.grownBy w' v.ownBlock → wpList Tryd.prog ops Q rest (a.put o.dst v') w') : wpList Tryd.prog ops Q (o :: rest) a w := by
  refine wpList_step fun K hK => ?_
  rw [if_pos hw]
  obtain ⟨v', w', hr, h2, h3, _⟩ := run_append_h w T E o.type z size bytes hT hinfo hz1 hsz hby base v k xs hown vx m news hh hl h1 hk hbase
  unfold Oper.wp
  simp [execOp, ho, resolve, invoke, builtin, hs, hx, hr, Result.andThen]
  exact hK _ _ (h v' w' h2 h3)

theorem step_append_h {ops : Array Oper} {o : Oper} {a : Act} {K : Act → World → Prop} {Q : Exit → Act → World → Prop} {X : Prop} (w : World) (hgd : o.guard = none) (s x : Operand) (T E : TypeId) (z : Value) (size bytes : Nat)
    (ho : o.op = .call { callee := .builtin .append, args := #[s, x], argTypes := #[T, T] }) (hT : Tryd.prog.underlying T = some (.slice E)) (hinfo : (Tryd.prog.info? E).map (fun i => (i.zero, i.size, i.bytes)) = some (some z, size, bytes)) (hz1 : z.cells.size = size) (hsz : 0 < size) (hby : bytes ≤ 32)
    (base : Nat) (v : Value) (k : Nat) (xs : List Value) (hs : a.eval s = v) (hown : w.ownsRow base E size v k xs) (vx : Value) (m : Nat) (news : List Value) (hx : a.eval x = vx) (hh : Holds w vx m news) (hl : news.length = m * size)
    (h1 : ∀ u ∈ news, u.oneCell' = true) (hk : k + m ≤ 4398046511104) (hbase : base ≤ w.heap.size)
    (h : ∀ v' w', w'.ownsRow base E size v' (k + m) (xs ++ news) → w.grownBy w' v.ownBlock → K (a.put o.dst v') w') :
    if Region.wanted o (yielded ops a.tmps) = true then Oper.wp Tryd.prog o a w K Q else X := by
  have hw : Region.wanted o (yielded ops a.tmps) = true := by simp [Region.wanted, hgd]
  rw [if_pos hw]
  obtain ⟨v', w', hr, h2, h3, _⟩ := run_append_h w T E o.type z size bytes hT hinfo hz1 hsz hby base v k xs hown vx m news hh hl h1 hk hbase
  unfold Oper.wp
  simp [execOp, ho, resolve, invoke, builtin, hs, hx, hr, Result.andThen]
  exact h v' w' h2 h3

/-- a new empty row -/
theorem nil_row_new {e : TypeId} {s : Nat} (W : World) (N g : Nat) (hg : W.heap.size = g) (hB : N ≤ g) : (W.alloc (.cells #[] e)).ownsRow N e s (.slice (some ⟨g, 0, none⟩) 0 0) 0 [] := by
  subst hg
  exact ⟨by simp, .inr ⟨_, 0, #[], rfl, hB, _root_.Go.heap_alloc_new W _, Nat.le_refl _, by decide, by simp, by simp⟩⟩
theorem owns_keep {w w' : World} {base : Nat} {e : TypeId} {s : Nat} {v : Value} {n : Nat} {xs : List Value} (h : w.ownsRow base e s v n xs) (hk : Below w.heap.size w w') : w'.ownsRow base e s v n xs := by
  refine ⟨h.1, ?_⟩
  rcases h.2 with h1 | ⟨g, cap, cur, q1, q2, q3, q4⟩
  · exact .inl h1
  · exact .inr ⟨g, cap, cur, q1, q2, (hk.block g (Array.getElem?_eq_some_iff.1 q3).1).trans q3, q4⟩
theorem owns_ge {w : World} {base : Nat} {e : TypeId} {s : Nat} {v : Value} {n : Nat} {xs : List Value} (h : w.ownsRow base e s v n xs) {j : Nat} (hj : v.ownBlock = some j) : base ≤ j := by
  rcases h.2 with ⟨rfl, _⟩ | ⟨g, cap, cur, rfl, hb, _⟩
  · cases hj
  · simp [Value.ownBlock] at hj; omega

/-- all ahead of a call as it was -/
def Low (W w : World) : Prop := Below W.heap.size W w
theorem low_drew (W w : World) : Low W w.drew ↔ Low W w := ⟨fun h => ⟨h.os, h.tape, h.output, h.size, h.block⟩, fun h => Below.dN h 1⟩
theorem low_alloc {W w : World} (o : Obj) (h : Low W w) : Low W (w.alloc o) := Below.alloc h (Below.size h) o
theorem Low.ch {W w : World} (h : Low W w) {b off n c : Nat} {l : List Ch} (hl : HCh W (.slice (some ⟨b, off, none⟩) n c) l) (k : Nat) (hk : k < l.length) {x : Ch} (hx : l[k] = x) : w.cell? ⟨b, off + k * 4, none⟩ = some (.int .i64 x.A) ∧ w.cell? ⟨b, off + k * 4 + 1, none⟩ = some (.int .i64 x.AN) ∧ w.cell? ⟨b, off + k * 4 + 2, none⟩ = some (.int .i64 x.B) ∧ w.cell? ⟨b, off + k * 4 + 3, none⟩ = some (.int .i64 x.BN) := by
  obtain ⟨b', off', e, _, hc⟩ := HCh.at (HCh.keep hl h (Nat.le_refl _)) (by omega)
  cases e
  rw [← hx]
  exact hc k hk
/-- a row of one's own, and all ahead of a call as it was -/
structure St (W : World) (e : TypeId) (s : Nat) (v : Value) (k : Nat) (xs : List Value) (w : World) : Prop where
  own : w.ownsRow W.heap.size e s v k xs
  low : Below W.heap.size W w
theorem st_drew (W : World) (e : TypeId) (s : Nat) (v : Value) (k : Nat) (xs : List Value) (w : World) : St W e s v k xs w.drew ↔ St W e s v k xs w :=
  ⟨fun h => ⟨h.own, ⟨h.low.os, h.low.tape, h.low.output, h.low.size, h.low.block⟩⟩, fun h => ⟨h.own, Below.dN h.low 1⟩⟩
theorem st_alloc {W : World} {e : TypeId} {s : Nat} {v : Value} {k : Nat} {xs : List Value} {w : World} (o : Obj) (h : St W e s v k xs w) : St W e s v k xs (w.alloc o) := ⟨h.own.alloc o, h.low.alloc h.low.size o⟩
theorem St.grown {W : World} {e : TypeId} {s : Nat} {v v' : Value} {k k' : Nat} {xs xs' : List Value} {w w' : World} (h : St W e s v k xs w) (ho : w'.ownsRow W.heap.size e s v' k' xs') (hg : w.grownBy w' v.ownBlock) : St W e s v' k' xs' w' :=
  ⟨ho, h.low.grown hg h.low.size (fun _ hj => owns_ge h.own hj)⟩

end Go.Proofs.YtgiojkhmkeocfaaDoor

/- A row of numbers of one's own, at a known block: what is kept. -/
namespace Go.Proofs.YtgiojkhmkeocfaaDoor
open Go.RowKit

/-- the state of the walk -/
structure Ls (w : World) (g n : Nat) (Z : List Int) (u : World) : Prop where
  low : Below w.heap.size w u
  own : u.ownsRow w.heap.size 3 1 (.slice (some ⟨g, 0, none⟩) n n) n (icells Z)
theorem Ls.drewN {w u : World} {g n : Nat} {Z : List Int} (h : Ls w g n Z u) (k : Nat) : Ls w g n Z (u.drewN k) := ⟨Below.dN h.low k, h.own⟩
theorem Ls.keep {w u u' : World} {g n : Nat} {Z : List Int} (h : Ls w g n Z u) (hb : Below u.heap.size u u') : Ls w g n Z u' := ⟨h.low.trans (hb.mono h.low.size), owns_keep h.own hb⟩
theorem Ls.set {w u : World} {g n : Nat} {Z : List Int} (h : Ls w g n Z u) (k : Nat) (m : Int) : Ls w g n (Z.set k m) (u.setCell ⟨g, k, none⟩ (.int .i64 m)) := by
  obtain ⟨p1, g1⟩ := h.own.stored k (.int .i64 m)
  have e : (icells Z).set k (.int .i64 m) = icells (Z.set k m) := by simp [icells, List.map_set]
  rw [e] at p1
  exact ⟨h.low.grown g1 h.low.size (fun j hj => owns_ge h.own (by simpa [Value.ownBlock] using hj)), p1⟩
theorem Ls.len {w u : World} {g n : Nat} {Z : List Int} (h : Ls w g n Z u) : Z.length = n := by
  have := h.own.1
  rw [icells_length, Nat.mul_one] at this
  exact this
theorem Ls.at {w u : World} {g n : Nat} {Z : List Int} (h : Ls w g n Z u) {k : Nat} {z : Int} (hz : Z[k]? = some z) : u.cell? ⟨g, k, none⟩ = some (.int .i64 z) := by
  have hl := (List.getElem?_eq_some_iff.1 hz).1
  rw [h.len] at hl
  rw [h.own.cellAt k (by omega)]
  simp [icells, hz]
theorem low_grown {w u : World} (h : Low w u) (r : Option Nat) : w.grownBy u r := ⟨Below.os h, Below.tape h, Below.output h, Below.size h, fun k hk _ => Below.block h k hk⟩
theorem grown_set (u : World) (g j : Nat) (v : Value) : u.grownBy (u.setCell ⟨g, j, none⟩ v) (some g) := ⟨rfl, rfl, rfl, (KeepsWalks.setCell u _ v).size, fun k _ hk => Below.heap_setCell _ _ _ k (fun e => hk (by rw [e]))⟩
theorem ls_other {W0 u : World} {n : Nat} {K : List Int} {G : Nat} (h : Ls W0 G n K u) {g : Nat} (hg : G ≠ g) (hw : W0.heap.size ≤ g) (j : Nat) (v : Value) : Ls W0 G n K (u.setCell ⟨g, j, none⟩ v) :=
  ⟨h.low.grown (grown_set u g j v) h.low.size (fun q hq => by cases hq; exact hw), h.own.kept (grown_set u g j v) (.inr (fun e => by simp [Value.ownBlock] at e; omega))⟩
theorem grown_new {w u : World} {r : Option Nat} (h : w.grownBy u r) {B : Nat} (hB : w.heap.size ≤ B) (j : Nat) (v : Value) : w.grownBy (u.setCell ⟨B, j, none⟩ v) r :=
  ⟨h.os, h.tape, h.output, Nat.le_trans h.size (grown_set u B j v).size, fun k hk hn => (heap_setCell_other u _ k _ (fun e => by simp at e; omega)).trans (h.block k hk hn)⟩
theorem grown_drewN {w u : World} {r : Option Nat} (h : w.grownBy u r) (k : Nat) : w.grownBy (u.drewN k) r := ⟨h.os, h.tape, h.output, h.size, h.block⟩
end Go.Proofs.YtgiojkhmkeocfaaDoor

/- Worlds behind a draw: new rows and what is carried. -/
namespace Go.Proofs.YtgiojkhmkeocfaaDoor
open Go.RowKit
attribute [local simp] low_drew

theorem new_holds_d (W : World) (cs : Array Value) (e : TypeId) (k c : Nat) (hkc : k ≤ c) : Holds (W.alloc (.cells cs e)).drew (.slice (some ⟨W.heap.size, 0, none⟩) k c) k cs.toList := by
  have := new_holds W cs e k c hkc
  exact this
theorem st_d {W : World} {e : TypeId} {s : Nat} {v : Value} {k : Nat} {xs : List Value} {w : World} (o : Obj) (h : St W e s v k xs w) : St W e s v k xs (w.alloc o).drew := (st_drew _ _ _ _ _ _ _).2 (st_alloc o h)
theorem alloc_second (w : World) (o o2 : Obj) : ((w.alloc o).alloc o2).heap[w.heap.size + 1]? = some o2 := by
  have h := _root_.Go.heap_alloc_new (w.alloc o) o2
  rw [World.size_alloc] at h
  exact h
theorem owns_d {W : World} {base : Nat} {e : TypeId} {s : Nat} {v : Value} {n : Nat} {xs : List Value} (h : W.ownsRow base e s v n xs) (o : Obj) : (W.alloc o).drew.ownsRow base e s v n xs := by
  have := h.alloc o
  exact this
end Go.Proofs.YtgiojkhmkeocfaaDoor

/- Which lists of changes are edit scripts: the reference's Check, walked. -/
namespace Go.Proofs.YtgiojkhmkeocfaaDoor
open Go.RowKit

theorem count_any (z : Int) (w : World) : Calls Tryd.prog 74 #[.int .i64 z] w fun e w' => e = .returned (.bool (nat31 z)) ∧ w' = w := by
  by_cases h0 : 0 ≤ z
  · by_cases h1 : z ≤ 2147483647
    · go_enter Tryd.func74, Tryd.ntmps74
      go_wp2
      go_ret
      simp [nat31, h0, h1]
    · go_enter Tryd.func74, Tryd.ntmps74
      go_wp2
      go_ret
      simp [nat31, h0, h1]
  · go_enter Tryd.func74, Tryd.ntmps74
    go_wp2
    go_ret
    have : ¬ 0 ≤ z := by omega
    simp [nat31, this]


set_option maxRecDepth 10000 in
set_option maxHeartbeats 4000000 in
theorem rCheck_f (l : List Ch) (n m r : Int) (v : Value) (w : World) (hl : HCh w v l) (hlen : l.length ≤ 1099511627776) (hn : n ≤ 9223372036854775807) (hm : m ≤ 9223372036854775807) (hr : Hid (chk l n m = r)) :
    Calls Tryd.prog 36 #[v, .int .i64 n, .int .i64 m] w fun e w' => e = .returned (.int .i64 r) ∧ Below w.heap.size w w' := by
  obtain ⟨ao, ca, rfl⟩ := Holds.form hl
  by_cases hn0 : n < 0
  · go_enter Tryd.func36, Tryd.ntmps36
    go_wp2
    go_ret
    refine ⟨ret_int ?_, Below.refl _ w⟩
    rw [← hr.out, chk_no (fun h => by have := h.1; omega)]
  by_cases hm0 : m < 0
  · go_enter Tryd.func36, Tryd.ntmps36
    go_wp2
    go_ret
    refine ⟨ret_int ?_, Below.refl _ w⟩
    rw [← hr.out, chk_no (fun h => by have := h.2.1; omega)]
  go_enter Tryd.func36, Tryd.ntmps36
  go_wp2
  go_loopw [7, 8, 9] (fun av bv iv wr => ∃ (k : Nat) (a b : Int), k ≤ l.length ∧ av = .int .i64 a ∧ bv = .int .i64 b ∧ iv = .int .i64 k ∧ 0 ≤ a ∧ a ≤ 4294967294 ∧ 0 ≤ b ∧ b ≤ 4294967294 ∧ Below w.heap.size w wr ∧ Hid (Script l n m ↔ Right (decide (k = 0)) a b n m (l.drop k))) (fun _ _ iv _ => l.length - (intOf iv).toNat)
  case atStart => exact ⟨0, 0, 0, Nat.zero_le _, rfl, rfl, rfl, by omega, by omega, by omega, by omega, Below.refl _ w, (by show _ ↔ _; simp only [Script, List.drop_zero, decide_true]; constructor; exact fun h => h.2.2; exact fun h => ⟨by omega, by omega, h⟩)⟩
  case round =>
    obtain ⟨k, a, b, hk, rfl, rfl, rfl, ha, han, hb, hbm, hB, hR⟩ := hrel
    by_cases hlt : k < l.length
    · obtain ⟨bk, off, rfl, hbk, hc⟩ := HCh.at (HCh.keep hl hB (Nat.le_refl _)) (by omega)
      obtain ⟨c0, c1, c2, c3⟩ := hc k hlt
      have hR' := hR.out
      rw [List.drop_eq_getElem_cons hlt] at hR'
      obtain ⟨c, hcd⟩ : ∃ c, l[k] = c := ⟨_, rfl⟩
      rw [hcd] at hR' c0 c1 c2 c3
      clear hc hcd hR
      have HR : Hid (Script l n m ↔ Right (decide (k = 0)) a b n m (c :: l.drop (k + 1))) := hR'
      clear hR'
      have i1 : 0 ≤ (k : Int) := by omega
      have i2 : (k : Int) < (l.length : Int) := by omega
      obtain ⟨A, AN, B, BN⟩ := c
      dsimp only at c0 c1 c2 c3
      have hsz := hB.size
      have hB2 : Below w.heap.size w (wr.alloc (Obj.cells #[Value.int IntKind.i64 A, Value.int IntKind.i64 AN, Value.int IntKind.i64 B, Value.int IntKind.i64 BN] 73)) := hB.alloc hsz _
      by_cases nA : nat31 A = true
      · by_cases nAN : nat31 AN = true
        · by_cases nB : nat31 B = true
          · by_cases nBN : nat31 BN = true
            · have pA : 0 ≤ A ∧ A ≤ 2147483647 := by simpa [nat31] using nA
              have pAN : 0 ≤ AN ∧ AN ≤ 2147483647 := by simpa [nat31] using nAN
              have pB : 0 ≤ B ∧ B ≤ 2147483647 := by simpa [nat31] using nB
              have pBN : 0 ≤ BN ∧ BN ≤ 2147483647 := by simpa [nat31] using nBN
              obtain ⟨pA0, pA1⟩ := pA
              obtain ⟨pAN0, pAN1⟩ := pAN
              obtain ⟨pB0, pB1⟩ := pB
              obtain ⟨pBN0, pBN1⟩ := pBN
              by_cases h0 : AN + BN = 0
              · go_wp2_with (go_at_call 74; refine (count_any _ _).mono ?_; rintro e w' ⟨rfl, rfl⟩)
                go_ret
                refine ⟨ret_int ?_, hB2⟩
                rw [← hr.out, chk_no]
                exact fun h => by obtain ⟨⟨q1, q2, q3, q4⟩, q5⟩ := HR.out.1 h; rw [numB_iff] at q1; dsimp only at q1; omega
              have HQ : Hid (numB ⟨A, AN, B, BN⟩ = true) := (by show _ = _; rw [numB_iff]; dsimp only; omega)
              by_cases h1 : A - a = B - b
              · by_cases h4 : A < a
                · go_wp2_with (go_at_call 74; refine (count_any _ _).mono ?_; rintro e w' ⟨rfl, rfl⟩)
                  go_ret
                  refine ⟨ret_int ?_, hB2⟩
                  rw [← hr.out, chk_no]
                  exact fun h => by obtain ⟨⟨q1, q2, q3, q4⟩, q5⟩ := HR.out.1 h; dsimp only at q3; omega
                by_cases h6 : 0 < (k : Int)
                · by_cases h5 : A = a
                  · subst h5
                    go_wp2_with (go_at_call 74; refine (count_any _ _).mono ?_; rintro e w' ⟨rfl, rfl⟩)
                    go_ret
                    refine ⟨ret_int ?_, hB2⟩
                    rw [← hr.out, chk_no]
                    exact fun h => by obtain ⟨⟨q1, q2, q3, q4⟩, q5⟩ := HR.out.1 h; rcases q4 with q4 | q4; (have := of_decide_eq_true q4; omega); (dsimp only at q4; omega)
                  · have h5a : a < A := by omega
                    have h5b : decide (A = a) = false := decide_eq_false h5
                    have h5c : (A == a) = false := by simpa using h5
                    go_wp2_with (go_at_call 74; refine (count_any _ _).mono ?_; rintro e w' ⟨rfl, rfl⟩)
                    go_roundw
                    case rel => exact ⟨k + 1, A + AN, B + BN, by omega, by go_num, by go_num, by go_num, by omega, by omega, by omega, by omega, hB2, (by
                      show _ ↔ _
                      refine HR.out.trans ?_
                      have : decide (k + 1 = 0) = false := by simp
                      rw [this]
                      exact ⟨fun h => h.2, fun h => ⟨⟨HQ.out, h1, by dsimp only; omega, .inr (by dsimp only; omega)⟩, h⟩⟩)⟩
                    case measure => simp [intOf]; omega
                · go_wp2_with (go_at_call 74; refine (count_any _ _).mono ?_; rintro e w' ⟨rfl, rfl⟩)
                  go_roundw
                  case rel => exact ⟨k + 1, A + AN, B + BN, by omega, by go_num, by go_num, by go_num, by omega, by omega, by omega, by omega, hB2, (by
                    show _ ↔ _
                    refine HR.out.trans ?_
                    have : decide (k + 1 = 0) = false := by simp
                    rw [this]
                    exact ⟨fun h => h.2, fun h => ⟨⟨HQ.out, h1, by dsimp only; omega, .inl (decide_eq_true (by omega))⟩, h⟩⟩)⟩
                  case measure => simp [intOf]; omega
              · go_wp2_with (go_at_call 74; refine (count_any _ _).mono ?_; rintro e w' ⟨rfl, rfl⟩)
                go_ret
                refine ⟨ret_int ?_, hB2⟩
                rw [← hr.out, chk_no]
                exact fun h => by obtain ⟨⟨q1, q2, q3, q4⟩, q5⟩ := HR.out.1 h; dsimp only at q2; omega
            · rw [Bool.not_eq_true] at nBN
              go_wp2_with (go_at_call 74; refine (count_any _ _).mono ?_; rintro e w' ⟨rfl, rfl⟩)
              go_ret
              refine ⟨ret_int ?_, hB2⟩
              rw [← hr.out, chk_no]
              exact fun h => by obtain ⟨⟨q1, q2, q3, q4⟩, q5⟩ := HR.out.1 h; rw [numB_iff] at q1; dsimp only at q1; simp [nat31] at nBN; omega
          · rw [Bool.not_eq_true] at nB
            go_wp2_with (go_at_call 74; refine (count_any _ _).mono ?_; rintro e w' ⟨rfl, rfl⟩)
            go_ret
            refine ⟨ret_int ?_, hB2⟩
            rw [← hr.out, chk_no]
            exact fun h => by obtain ⟨⟨q1, q2, q3, q4⟩, q5⟩ := HR.out.1 h; rw [numB_iff] at q1; dsimp only at q1; simp [nat31] at nB; omega
        · rw [Bool.not_eq_true] at nAN
          go_wp2_with (go_at_call 74; refine (count_any _ _).mono ?_; rintro e w' ⟨rfl, rfl⟩)
          go_ret
          refine ⟨ret_int ?_, hB2⟩
          rw [← hr.out, chk_no]
          exact fun h => by obtain ⟨⟨q1, q2, q3, q4⟩, q5⟩ := HR.out.1 h; rw [numB_iff] at q1; dsimp only at q1; simp [nat31] at nAN; omega
      · rw [Bool.not_eq_true] at nA
        go_wp2_with (go_at_call 74; refine (count_any _ _).mono ?_; rintro e w' ⟨rfl, rfl⟩)
        go_ret
        refine ⟨ret_int ?_, hB2⟩
        rw [← hr.out, chk_no]
        exact fun h => by obtain ⟨⟨q1, q2, q3, q4⟩, q5⟩ := HR.out.1 h; rw [numB_iff] at q1; dsimp only at q1; simp [nat31] at nA; omega
    · have hE := hR.out
      rw [List.drop_of_length_le (by omega)] at hE
      have HE : Hid (Script l n m ↔ a ≤ n ∧ b ≤ m ∧ n - a = m - b) := hE
      clear hE hR
      by_cases e1 : n < a
      · go_wp2
        go_ret
        refine ⟨ret_int ?_, hB⟩
        rw [← hr.out, chk_no]
        exact fun h => by have := HE.out.1 h; omega
      by_cases e2 : m < b
      · go_wp2
        go_ret
        refine ⟨ret_int ?_, hB⟩
        rw [← hr.out, chk_no]
        exact fun h => by have := HE.out.1 h; omega
      by_cases he : n - a = m - b
      · go_wp2
        go_ret
        refine ⟨ret_int ?_, hB⟩
        rw [← hr.out, chk_ok]
        exact HE.out.2 ⟨by omega, by omega, he⟩
      · go_wp2
        go_ret
        refine ⟨ret_int ?_, hB⟩
        rw [← hr.out, chk_no]
        exact fun h => he (HE.out.1 h).2.2
end Go.Proofs.YtgiojkhmkeocfaaDoor

/- Lines with signs and hunks as cells: what slices of them hold; hunks in a box; append onto an owned row of hunks. -/
namespace Go.Proofs.YtgiojkhmkeocfaaDoor
open Go.RowKit

def mkC (m : Mk) : List Value := [.int .u8 m.sg, .string ⟨m.tx.toArray⟩]
def mkcells (l : List Mk) : List Value := l.flatMap mkC
theorem infoMk : (Tryd.prog.info? 91).map (fun i => (i.zero, i.size, i.bytes)) = some (some (.agg #[.int .u8 0, .string ⟨#[]⟩]), 2, 24) := by kernel_rfl
theorem infoHk : (Tryd.prog.info? 43).map (fun i => (i.zero, i.size, i.bytes)) = some (some (.agg #[.int .i64 0, .int .i64 0, .int .i64 0, .int .i64 0, .slice none 0 0]), 5, 56) := by kernel_rfl
theorem mkcells_length (l : List Mk) : (mkcells l).length = l.length * 2 := by
  induction l with
  | nil => rfl
  | cons c l ih => simp only [mkcells, List.flatMap_cons, List.length_append, List.length_cons] at ih ⊢; rw [ih]; simp [mkC]; omega
theorem mkcells_append (a b : List Mk) : mkcells (a ++ b) = mkcells a ++ mkcells b := by simp [mkcells]
theorem mkcells_one (l : List Mk) : ∀ u ∈ mkcells l, u.oneCell' = true := by
  intro u hu
  simp only [mkcells, List.mem_flatMap, mkC] at hu
  obtain ⟨c, _, h⟩ := hu
  simp only [List.mem_cons, List.not_mem_nil, or_false] at h
  rcases h with rfl | rfl <;> rfl
theorem mkcells_at (l : List Mk) (k : Nat) (hk : k < l.length) : (mkcells l)[2 * k]? = some (.int .u8 l[k].sg) ∧ (mkcells l)[2 * k + 1]? = some (.string ⟨l[k].tx.toArray⟩) := by
  induction l generalizing k with
  | nil => simp at hk
  | cons c l ih =>
    cases k with
    | zero => simp [mkcells, mkC]
    | succ k =>
      have h := ih k (by simpa using hk)
      have e : ∀ i, (mkcells (c :: l))[2 * (k + 1) + i]? = (mkcells l)[2 * k + i]? := by
        intro i
        have : mkcells (c :: l) = mkC c ++ mkcells l := rfl
        rw [this, List.getElem?_append_right (by simp [mkC]; omega)]
        congr 1
        simp [mkC]; omega
      simp only [List.getElem_cons_succ]
      refine ⟨by rw [← (h).1]; exact e 0, by rw [← h.2]; exact e 1⟩
/-- a slice of lines with signs -/
def HMk (w : World) (v : Value) (l : List Mk) : Prop := Holds w v l.length (mkcells l)
theorem HMk.keep {w w' : World} {v : Value} {l : List Mk} (h : HMk w v l) {N : Nat} (hk : Below N w w') (hN : w.heap.size ≤ N) : HMk w' v l := Holds.keep h fun k hk' => hk.block k (by omega)
theorem HMk.at {w : World} {ao : Option Addr} {n c : Nat} {l : List Mk} (h : HMk w (.slice ao n c) l) (h0 : 0 < l.length) : ∃ b off, ao = some ⟨b, off, none⟩ ∧ b < w.heap.size ∧
    ∀ k (hk : k < l.length), w.cell? ⟨b, off + k * 2, none⟩ = some (.int .u8 l[k].sg) ∧ w.cell? ⟨b, off + k * 2 + 1, none⟩ = some (.string ⟨l[k].tx.toArray⟩) := by
  obtain ⟨b, off, c', hv, hb, hc⟩ := Holds.at h (by rw [mkcells_length]; omega)
  cases hv
  refine ⟨b, off, rfl, hb, fun k hk => ?_⟩
  obtain ⟨h0, h1⟩ := mkcells_at l k hk
  have hlen := mkcells_length l
  have e : k * 2 = 2 * k := by omega
  rw [e]
  refine ⟨?_, ?_⟩
  · have := hc (2 * k) (by omega)
    rw [← h0, this, List.getElem?_eq_getElem]
  · have := hc (2 * k + 1) (by omega)
    rw [← h1, Nat.add_assoc, this, List.getElem?_eq_getElem]
theorem Low.mk {W w : World} (h : Low W w) {b off n c : Nat} {l : List Mk} (hl : HMk W (.slice (some ⟨b, off, none⟩) n c) l) (k : Nat) (hk : k < l.length) {x : Mk} (hx : l[k] = x) : w.cell? ⟨b, off + k * 2, none⟩ = some (.int .u8 x.sg) ∧ w.cell? ⟨b, off + k * 2 + 1, none⟩ = some (.string ⟨x.tx.toArray⟩) := by
  obtain ⟨b', off', e, _, hc⟩ := HMk.at (HMk.keep hl h (Nat.le_refl _)) (by omega)
  cases e
  rw [← hx]
  exact hc k hk
/-- a hunk as a value, in a box -/
def hkV (h : Hk) (v : Value) : Value := .agg #[.int .i64 h.A, .int .i64 h.AN, .int .i64 h.B, .int .i64 h.BN, v]
def hkC (h : Hk) (v : Value) : List Value := [.int .i64 h.A, .int .i64 h.AN, .int .i64 h.B, .int .i64 h.BN, v]
def hkO (h : Hk) (v : Value) : Obj := .cells #[.int .i64 h.A, .int .i64 h.AN, .int .i64 h.B, .int .i64 h.BN, v] 43
def Hx (u : World) (b : Nat) (h : Hk) (v : Value) : Prop := u.heap[b]? = some (hkO h v)
section
variable {u u' : World} {b : Nat} {h : Hk} {v : Value}
theorem Hx.cells (q : Hx u b h v) : u.cell? ⟨b, 0, none⟩ = some (.int .i64 h.A) ∧ u.cell? ⟨b, 1, none⟩ = some (.int .i64 h.AN) ∧ u.cell? ⟨b, 2, none⟩ = some (.int .i64 h.B) ∧ u.cell? ⟨b, 3, none⟩ = some (.int .i64 h.BN) ∧ u.cell? ⟨b, 4, none⟩ = some v := by
  unfold Hx hkO at q
  refine ⟨?_, ?_, ?_, ?_, ?_⟩ <;> rw [Lib.cell_of_heap q] <;> rfl
theorem Hx.frozen (q : Hx u b h v) (j : Nat) : u.frozen? ⟨b, j, none⟩ = false := Lib.frozen_of_heap q j
theorem Hx.lt (q : Hx u b h v) : b < u.heap.size := (Array.getElem?_eq_some_iff.1 q).1
theorem Hx.low (q : Hx u b h v) (hg : Below u.heap.size u u') : Hx u' b h v := (hg.block b q.lt).trans q
theorem Hx.keep (q : Hx u b h v) {g : Option Nat} (hg : u.grownBy u' g) (hr : some b ≠ g) : Hx u' b h v := (hg.block b q.lt hr).trans q
theorem Hx.new (w : World) (h : Hk) (v : Value) : Hx (w.alloc (hkO h v)) w.heap.size h v := _root_.Go.heap_alloc_new w _
end
/-- hunks in a row: each with the slice of its lines -/
def hkcells : List (Hk × Value) → List Value
  | [] => []
  | (h, v) :: l => hkC h v ++ hkcells l
theorem hkcells_length (l : List (Hk × Value)) : (hkcells l).length = l.length * 5 := by
  induction l with
  | nil => rfl
  | cons c l ih =>
    obtain ⟨h, v⟩ := c
    simp only [hkcells, List.length_append, List.length_cons]
    rw [ih]
    simp [hkC]; omega
theorem hkcells_append (a b : List (Hk × Value)) : hkcells (a ++ b) = hkcells a ++ hkcells b := by
  induction a with
  | nil => rfl
  | cons c l ih =>
    obtain ⟨h, v⟩ := c
    simp only [List.cons_append, hkcells, ih, List.append_assoc]
theorem hkcells_at (l : List (Hk × Value)) (k : Nat) (hk : k < l.length) : (hkcells l)[5 * k]? = some (.int .i64 l[k].1.A) ∧ (hkcells l)[5 * k + 1]? = some (.int .i64 l[k].1.AN) ∧ (hkcells l)[5 * k + 2]? = some (.int .i64 l[k].1.B) ∧ (hkcells l)[5 * k + 3]? = some (.int .i64 l[k].1.BN) ∧ (hkcells l)[5 * k + 4]? = some l[k].2 := by
  induction l generalizing k with
  | nil => simp at hk
  | cons c l ih =>
    obtain ⟨x, y⟩ := c
    cases k with
    | zero => simp [hkcells, hkC]
    | succ k =>
      have h := ih k (by simpa using hk)
      have e : ∀ i, (hkcells ((x, y) :: l))[5 * (k + 1) + i]? = (hkcells l)[5 * k + i]? := by
        intro i
        have : hkcells ((x, y) :: l) = hkC x y ++ hkcells l := rfl
        rw [this, List.getElem?_append_right (by simp [hkC]; omega)]
        congr 1
        simp [hkC]; omega
      simp only [List.getElem_cons_succ]
      refine ⟨by rw [← (h).1]; exact e 0, by rw [← h.2.1]; exact e 1, by rw [← h.2.2.1]; exact e 2, by rw [← h.2.2.2.1]; exact e 3, by rw [← h.2.2.2.2]; exact e 4⟩
/-- a slice of hunks; p: the hunks, each with the slice of its lines -/
structure HHp (w : World) (v : Value) (p : List (Hk × Value)) : Prop where
  row : Holds w v p.length (hkcells p)
  ins : ∀ x ∈ p, HMk w x.2 x.1.ls
def HHk (w : World) (v : Value) (l : List Hk) : Prop := ∃ p : List (Hk × Value), p.map (·.1) = l ∧ HHp w v p
theorem HHp.keep {w w' : World} {v : Value} {p : List (Hk × Value)} (h : HHp w v p) {N : Nat} (hk : Below N w w') (hN : w.heap.size ≤ N) : HHp w' v p :=
  ⟨Holds.keep h.row fun k hk' => hk.block k (by omega), fun x hx => HMk.keep (h.ins x hx) hk hN⟩
theorem HHk.keep {w w' : World} {v : Value} {l : List Hk} (h : HHk w v l) {N : Nat} (hk : Below N w w') (hN : w.heap.size ≤ N) : HHk w' v l := by
  obtain ⟨p, hp, h⟩ := h
  exact ⟨p, hp, h.keep hk hN⟩
theorem HHp.at {w : World} {ao : Option Addr} {n c : Nat} {l : List (Hk × Value)} (h : HHp w (.slice ao n c) l) (h0 : 0 < l.length) : ∃ b off, ao = some ⟨b, off, none⟩ ∧ b < w.heap.size ∧
    ∀ k (hk : k < l.length), w.cell? ⟨b, off + k * 5, none⟩ = some (.int .i64 l[k].1.A) ∧ w.cell? ⟨b, off + k * 5 + 1, none⟩ = some (.int .i64 l[k].1.AN) ∧ w.cell? ⟨b, off + k * 5 + 2, none⟩ = some (.int .i64 l[k].1.B) ∧ w.cell? ⟨b, off + k * 5 + 3, none⟩ = some (.int .i64 l[k].1.BN) ∧ w.cell? ⟨b, off + k * 5 + 4, none⟩ = some l[k].2 := by
  obtain ⟨b, off, c', hv, hb, hc⟩ := Holds.at h.row (by rw [hkcells_length]; omega)
  cases hv
  refine ⟨b, off, rfl, hb, fun k hk => ?_⟩
  obtain ⟨h0, h1, h2, h3, h4⟩ := hkcells_at l k hk
  have hlen := hkcells_length l
  have e : k * 5 = 5 * k := by omega
  rw [e]
  refine ⟨?_, ?_, ?_, ?_, ?_⟩
  · have := hc (5 * k) (by omega)
    rw [← h0, this, List.getElem?_eq_getElem]
  · have := hc (5 * k + 1) (by omega)
    rw [← h1, Nat.add_assoc, this, List.getElem?_eq_getElem]
  · have := hc (5 * k + 2) (by omega)
    rw [← h2, Nat.add_assoc, this, List.getElem?_eq_getElem]
  · have := hc (5 * k + 3) (by omega)
    rw [← h3, Nat.add_assoc, this, List.getElem?_eq_getElem]
  · have := hc (5 * k + 4) (by omega)
    rw [← h4, Nat.add_assoc, this, List.getElem?_eq_getElem]
theorem HMk.form {w : World} {v : Value} {l : List Mk} (h : HMk w v l) : ∃ ao c, v = .slice ao l.length c := Holds.form h
theorem hkcells_one {w : World} (l : List (Hk × Value)) (h : ∀ x ∈ l, HMk w x.2 x.1.ls) : ∀ u ∈ hkcells l, u.oneCell' = true := by
  induction l with
  | nil => simp [hkcells]
  | cons c l ih =>
    obtain ⟨x, y⟩ := c
    intro u hu
    simp only [hkcells, hkC, List.mem_append, List.mem_cons, List.not_mem_nil, or_false] at hu
    rcases hu with (rfl | rfl | rfl | rfl | rfl) | hu
    · rfl
    · rfl
    · rfl
    · rfl
    · obtain ⟨ao, c, hv⟩ := (h (x, u) (by simp)).form
      dsimp only at hv
      rw [hv]
      rfl
    · exact ih (fun x hx => h x (by simp [hx])) u hu

theorem run_append_w (w : World) (T E ty : TypeId) (z : Value) (size bytes : Nat) (hT : Tryd.prog.underlying T = some (.slice E)) (hinfo : (Tryd.prog.info? E).map (fun i => (i.zero, i.size, i.bytes)) = some (some z, size, bytes)) (hz1 : z.cells.size = size) (hsz : 0 < size) (hby : bytes ≤ 64)
    (base : Nat) (v : Value) (k : Nat) (xs : List Value) (hown : w.ownsRow base E size v k xs) (vx : Value) (m : Nat) (news : List Value) (hh : Holds w vx m news) (hl : news.length = m * size)
    (h1 : ∀ u ∈ news, u.oneCell' = true) (hk : k + m ≤ 2199023255552) (hbase : base ≤ w.heap.size) :
    ∃ v' w', (Builtin.append_ #[T, T] ty #[v, vx]).run Tryd.prog w = .ok v' w' ∧ w'.ownsRow base E size v' (k + m) (xs ++ news) ∧ w.grownBy w' v.ownBlock ∧ (v'.ownBlock = v.ownBlock ∨ v'.ownBlock = some w.heap.size) := by
  obtain ⟨i0, hi0, hz0, hzs, hz2⟩ := info_parts hinfo
  rcases hh with ⟨rfl, rfl, rfl⟩ | ⟨ad, c, rfl, _, hc⟩
  · exact ⟨v, w, run_append_owned_none (P := Tryd.prog) (w := w) base T ty E i0 size hT hi0 v k xs hown, by simpa using hown, World.grownBy.refl _ _, .inl rfl⟩
  · obtain ⟨v', w', hr, h2, h3, _, h5⟩ := run_append_own_at (P := Tryd.prog) w base T ty E i0 z size bytes hT hi0 hz0 hzs hz2 hz1 hsz v k xs hown ad m c news hl hc h1 (by unfold maxLen; omega) (by
      have : (k + m) * bytes ≤ (k + m) * 64 := Nat.mul_le_mul_left _ hby
      omega) hbase
    exact ⟨v', w', hr, h2, h3, h5⟩
theorem wpList_append_w {ops : Array Oper} {rest : List Oper} {o : Oper} {a : Act} {Q : Exit → Act → World → Prop} (w : World) (hw : Region.wanted o (yielded ops a.tmps) = true) (s x : Operand) (T E : TypeId) (z : Value) (size bytes : Nat)
    (ho : o.op = .call { callee := .builtin .append, args := #[s, x], argTypes := #[T, T] }) (hT : Tryd.prog.underlying T = some (.slice E)) (hinfo : (Tryd.prog.info? E).map (fun i => (i.zero, i.size, i.bytes)) = some (some z, size, bytes)) (hz1 : z.cells.size = size) (hsz : 0 < size) (hby : bytes ≤ 64)
    (base : Nat) (v : Value) (k : Nat) (xs : List Value) (hs : a.eval s = v) (hown : w.ownsRow base E size v k xs) (vx : Value) (m : Nat) (news : List Value) (hx : a.eval x = vx) (hh : Holds w vx m news) (hl : news.length = m * size)
    (h1 : ∀ u ∈ news, u.oneCell' = true) (hk : k + m ≤ 2199023255552) (hbase : base ≤ w.heap.size)
    (h : ∀ v' w', w'.ownsRow base E size v' (k + m) (xs ++ news) → w.grownBy w' v.ownBlock → (v'.ownBlock = v.ownBlock ∨ v'.ownBlock = some w.heap.size) → wpList Tryd.prog ops Q rest (a.put o.dst v') w') : wpList Tryd.prog ops Q (o :: rest) a w := by
  refine wpList_step fun K hK => ?_
  rw [if_pos hw]
  obtain ⟨v', w', hr, h2, h3, h4⟩ := run_append_w w T E o.type z size bytes hT hinfo hz1 hsz hby base v k xs hown vx m news hh hl h1 hk hbase
  unfold Oper.wp
  simp [execOp, ho, resolve, invoke, builtin, hs, hx, hr, Result.andThen]
  exact hK _ _ (h v' w' h2 h3 h4)
theorem hnil_row (w : World) (base : Nat) (e : TypeId) (s : Nat) : w.ownsRow base e s (.slice none 0 0) 0 [] := ⟨by simp, .inl ⟨rfl, rfl⟩⟩
end Go.Proofs.YtgiojkhmkeocfaaDoor

/- The reference's small functions of layer 11, walked: numbers, places, lines, the lines of a side. -/
namespace Go.Proofs.YtgiojkhmkeocfaaDoor
open Go.RowKit

theorem rnumber_any (z : Int) (w : World) : Calls Tryd.prog 132 #[.int .i64 z] w fun e w' => e = .returned (.bool (nat31 z)) ∧ w' = w := by
  unfold nat31
  go_enter Tryd.func132, Tryd.ntmps132
  by_cases h0 : 0 ≤ z
  · rw [decide_eq_true h0]
    go_wp2
    go_ret
    exact ⟨by simp, rfl⟩
  · have e0 : decide (0 ≤ z) = false := decide_eq_false h0
    rw [e0]
    go_wp2
    go_ret
    exact ⟨rfl, rfl⟩
set_option maxHeartbeats 2000000 in
theorem rpick_f (h : Hk) (v : Value) (no : Int) (w : World) (hv : HMk w v h.ls) (hl : h.ls.length ≤ 1099511627776) (R : List (List UInt8)) (HR : Hid (pkL no h.ls = R)) : Calls Tryd.prog 161 #[hkV h v, .int .u8 no] w fun e w' => ∃ v', e = .returned v' ∧ HS w' v' R ∧ Below w.heap.size w w' := by
  obtain ⟨A, AN, B, BN, ls⟩ := h
  dsimp only at hv hl HR
  obtain ⟨lo, lc, rfl⟩ := HMk.form hv
  have hx := Hx.new w ⟨A, AN, B, BN, ls⟩ (.slice lo ls.length lc)
  have hBl : Below w.heap.size w (w.alloc (hkO ⟨A, AN, B, BN, ls⟩ (.slice lo ls.length lc))) := (Below.refl _ w).alloc (Nat.le_refl _) _
  have hv1 := HMk.keep hv hBl (Nat.le_refl _)
  have hsz : (w.alloc (hkO ⟨A, AN, B, BN, ls⟩ (.slice lo ls.length lc))).heap.size = w.heap.size + 1 := by simp
  unfold hkV
  dsimp only
  go_enter Tryd.func161, Tryd.ntmps161
  go_wp2
  have hW : w.alloc (hkO ⟨A, AN, B, BN, ls⟩ (.slice lo ls.length lc)) = w.alloc (Obj.cells #[Value.int IntKind.i64 A, Value.int IntKind.i64 AN, Value.int IntKind.i64 B, Value.int IntKind.i64 BN, .slice lo ls.length lc] 43) := rfl
  rw [← hW]
  clear hW hv
  have HSZ : Hid ((w.alloc (hkO ⟨A, AN, B, BN, ls⟩ (.slice lo ls.length lc))).heap.size = w.heap.size + 1) := hsz
  clear hsz
  generalize w.alloc (hkO ⟨A, AN, B, BN, ls⟩ (.slice lo ls.length lc)) = W at *
  go_loopw [5, 6] (fun ov iv wr => ∃ (k : Nat) (out : List (List UInt8)), k ≤ ls.length ∧ out.length ≤ k ∧ iv = .int .i64 (k : Int) ∧ (∃ oo oc, ov = .slice oo out.length oc) ∧ St W 9 1 ov out.length (scells out) wr ∧ Hid (out ++ pkL no (ls.drop k) = R)) (fun _ iv _ => ls.length - (intOf iv).toNat)
  case atStart => exact ⟨0, [], Nat.zero_le _, Nat.le_refl _, by go_num, ⟨_, _, rfl⟩, ⟨hnil_row _ _ _ _, Below.refl _ _⟩, HR⟩
  case round =>
    obtain ⟨k, out, hk, hok, rfl, ⟨oo, oc, rfl⟩, hS, HI⟩ := hrel
    obtain ⟨_, _, _, _, d4⟩ := (hx.low hS.low).cells
    by_cases hlt : k < ls.length
    · obtain ⟨b, off, rfl, hb, _⟩ := HMk.at hv1 (by omega)
      obtain ⟨m, hm⟩ : ∃ m, ls[k] = m := ⟨_, rfl⟩
      obtain ⟨c0, c1⟩ := Low.mk hS.low hv1 k hlt hm
      have HI2 : Hid (out ++ (if m.sg ≠ no ∧ okS m.sg = true then m.tx :: pkL no (ls.drop (k + 1)) else pkL no (ls.drop (k + 1))) = R) := (by
        show _ = _
        rw [← HI.out, List.drop_eq_getElem_cons hlt, hm]
        rfl)
      obtain ⟨sg, tx⟩ := m
      dsimp only at c0 c1 HI2
      clear HI hm HR
      have i1 : 0 ≤ (k : Int) := by omega
      have i2 : (k : Int) < (ls.length : Int) := by omega
      have hsS := hS.low.size
      by_cases h0 : sg = no
      · subst h0
        have HI3 : Hid (out ++ pkL sg (ls.drop (k + 1)) = R) := (by
          have h := HI2.out
          rw [if_neg (by exact fun h => h.1 rfl)] at h
          exact h)
        clear HI2
        go_wp2
        exact ⟨⟨k + 1, out, by omega, by omega, by go_num, ⟨_, _, rfl⟩, hS, HI3⟩, by simp [intOf]; omega⟩
      · have e0 : (sg == no) = false := by simpa using h0
        by_cases h1 : sg = 32
        · subst h1
          have HI3 : Hid (out ++ [tx] ++ pkL no (ls.drop (k + 1)) = R) := (by
            have h := HI2.out
            rw [if_pos ⟨h0, by decide⟩] at h
            show _ = _
            rw [← h]
            simp)
          clear HI2
          go_wp2_with (at_builtin; refine wpList_append_h _ (by kernel_rfl) (.tmp 36) (.tmp 43) 23 9 (.string ⟨#[]⟩) 1 16 rfl Tryd.underlying23 infoStr rfl (by decide) (by decide) W.heap.size _ _ _ rfl (hS.own.alloc _) _ 1 (scells [tx]) rfl (new_holds _ _ _ _ _ (by decide)) rfl (scells_one _) (by omega) (by simp; omega) ?_)
          intro v2 w2 hown2 hgrow2
          have hB2 : Below W.heap.size W w2 := (hS.low.alloc hS.low.size _).grown hgrow2 (by simp; omega) (fun _ hj => owns_ge hS.own hj)
          rw [← scells_append] at hown2
          obtain ⟨oo2, oc2, rfl⟩ := (holds_of hown2).form
          clear hgrow2
          go_wp2
          exact ⟨⟨k + 1, out ++ [tx], by omega, by simp; omega, by go_num, ⟨_, _, by rw [List.length_append]; rfl⟩, ⟨by rw [List.length_append]; exact hown2, hB2⟩, HI3⟩, by simp [intOf]; omega⟩
        · have e1 : (sg == 32) = false := by simpa using h1
          by_cases h2 : sg = 45
          · subst h2
            have HI3 : Hid (out ++ [tx] ++ pkL no (ls.drop (k + 1)) = R) := (by
              have h := HI2.out
              rw [if_pos ⟨h0, by decide⟩] at h
              show _ = _
              rw [← h]
              simp)
            clear HI2
            go_wp2_with (at_builtin; refine wpList_append_h _ (by kernel_rfl) (.tmp 36) (.tmp 43) 23 9 (.string ⟨#[]⟩) 1 16 rfl Tryd.underlying23 infoStr rfl (by decide) (by decide) W.heap.size _ _ _ rfl (hS.own.alloc _) _ 1 (scells [tx]) rfl (new_holds _ _ _ _ _ (by decide)) rfl (scells_one _) (by omega) (by simp; omega) ?_)
            intro v2 w2 hown2 hgrow2
            have hB2 : Below W.heap.size W w2 := (hS.low.alloc hS.low.size _).grown hgrow2 (by simp; omega) (fun _ hj => owns_ge hS.own hj)
            rw [← scells_append] at hown2
            obtain ⟨oo2, oc2, rfl⟩ := (holds_of hown2).form
            clear hgrow2
            go_wp2
            exact ⟨⟨k + 1, out ++ [tx], by omega, by simp; omega, by go_num, ⟨_, _, by rw [List.length_append]; rfl⟩, ⟨by rw [List.length_append]; exact hown2, hB2⟩, HI3⟩, by simp [intOf]; omega⟩
          · have e2 : (sg == 45) = false := by simpa using h2
            by_cases h3 : sg = 43
            · subst h3
              have HI3 : Hid (out ++ [tx] ++ pkL no (ls.drop (k + 1)) = R) := (by
                have h := HI2.out
                rw [if_pos ⟨h0, by decide⟩] at h
                show _ = _
                rw [← h]
                simp)
              clear HI2
              go_wp2_with (at_builtin; refine wpList_append_h _ (by kernel_rfl) (.tmp 36) (.tmp 43) 23 9 (.string ⟨#[]⟩) 1 16 rfl Tryd.underlying23 infoStr rfl (by decide) (by decide) W.heap.size _ _ _ rfl (hS.own.alloc _) _ 1 (scells [tx]) rfl (new_holds _ _ _ _ _ (by decide)) rfl (scells_one _) (by omega) (by simp; omega) ?_)
              intro v2 w2 hown2 hgrow2
              have hB2 : Below W.heap.size W w2 := (hS.low.alloc hS.low.size _).grown hgrow2 (by simp; omega) (fun _ hj => owns_ge hS.own hj)
              rw [← scells_append] at hown2
              obtain ⟨oo2, oc2, rfl⟩ := (holds_of hown2).form
              clear hgrow2
              go_wp2
              exact ⟨⟨k + 1, out ++ [tx], by omega, by simp; omega, by go_num, ⟨_, _, by rw [List.length_append]; rfl⟩, ⟨by rw [List.length_append]; exact hown2, hB2⟩, HI3⟩, by simp [intOf]; omega⟩
            · have e3 : (sg == 43) = false := by simpa using h3
              have HI3 : Hid (out ++ pkL no (ls.drop (k + 1)) = R) := (by
                have h := HI2.out
                rw [if_neg (by simp [okS, h1, h2, h3])] at h
                exact h)
              clear HI2
              go_wp2
              exact ⟨⟨k + 1, out, by omega, by omega, by go_num, ⟨_, _, rfl⟩, hS, HI3⟩, by simp [intOf]; omega⟩
    · have HI3 : Hid (out = R) := (by
        have h := HI.out
        rw [List.drop_of_length_le (by omega)] at h
        show out = R
        simpa [pkL] using h)
      clear HI
      have hend : decide ((k : Int) < (ls.length : Int)) = false := decide_eq_false (by omega)
      go_wp2
      go_ret
      refine ⟨_, rfl, ?_, hBl.trans (hS.low.mono (by have := HSZ.out; omega))⟩
      rw [← HI3.out]
      exact holds_of hS.own
theorem rOld_f (h : Hk) (v : Value) (w : World) (hv : HMk w v h.ls) (hl : h.ls.length ≤ 1099511627776) (R : List (List UInt8)) (HR : Hid (oldL h = R)) : Calls Tryd.prog 134 #[hkV h v] w fun e w' => ∃ v', e = .returned v' ∧ HS w' v' R ∧ Below w.heap.size w w' := by
  have hBl : Below w.heap.size w (w.alloc (hkO h v)) := (Below.refl _ w).alloc (Nat.le_refl _) _
  have hv1 := HMk.keep hv hBl (Nat.le_refl _)
  obtain ⟨c0, c1, c2, c3, c4⟩ := (Hx.new w h v).cells
  unfold hkO at c0 c1 c2 c3 c4 hBl hv1
  obtain ⟨lo, lc, rfl⟩ := HMk.form hv
  have e : hkV h (.slice lo h.ls.length lc) = .agg #[.int .i64 h.A, .int .i64 h.AN, .int .i64 h.B, .int .i64 h.BN, .slice lo h.ls.length lc] := rfl
  rw [e]
  go_enter Tryd.func134, Tryd.ntmps134
  go_wp2_with fail
  refine (rpick_f h _ 43 _ hv1 hl R HR).mono ?_
  rintro e w1 ⟨v1, rfl, hv1, hB1⟩
  obtain ⟨vo, vc, rfl⟩ := Holds.form hv1
  go_wp2
  go_ret
  exact ⟨_, rfl, hv1, hBl.trans (hB1.mono hBl.size)⟩
theorem rNew_f (h : Hk) (v : Value) (w : World) (hv : HMk w v h.ls) (hl : h.ls.length ≤ 1099511627776) (R : List (List UInt8)) (HR : Hid (newL h = R)) : Calls Tryd.prog 135 #[hkV h v] w fun e w' => ∃ v', e = .returned v' ∧ HS w' v' R ∧ Below w.heap.size w w' := by
  have hBl : Below w.heap.size w (w.alloc (hkO h v)) := (Below.refl _ w).alloc (Nat.le_refl _) _
  have hv1 := HMk.keep hv hBl (Nat.le_refl _)
  obtain ⟨c0, c1, c2, c3, c4⟩ := (Hx.new w h v).cells
  unfold hkO at c0 c1 c2 c3 c4 hBl hv1
  obtain ⟨lo, lc, rfl⟩ := HMk.form hv
  have e : hkV h (.slice lo h.ls.length lc) = .agg #[.int .i64 h.A, .int .i64 h.AN, .int .i64 h.B, .int .i64 h.BN, .slice lo h.ls.length lc] := rfl
  rw [e]
  go_enter Tryd.func135, Tryd.ntmps135
  go_wp2_with fail
  refine (rpick_f h _ 45 _ hv1 hl R HR).mono ?_
  rintro e w1 ⟨v1, rfl, hv1, hB1⟩
  obtain ⟨vo, vc, rfl⟩ := Holds.form hv1
  go_wp2
  go_ret
  exact ⟨_, rfl, hv1, hBl.trans (hB1.mono hBl.size)⟩

/-- a line's bytes, one by one -/
theorem lin_at {s : List UInt8} (hs : s ≠ []) : linB s = true ↔ ∀ (j : Nat) (hj : j + 1 < s.length), s[j] ≠ 10 := by
  unfold linB
  have e1 : s.isEmpty = false := by cases s with | nil => exact absurd rfl hs | cons => rfl
  rw [e1]
  simp only [Bool.not_false, Bool.true_and, List.all_eq_true]
  constructor
  · intro h j hj
    have := h s[j] (by
      rw [List.mem_iff_getElem]
      exact ⟨j, by simp; omega, by simp⟩)
    simpa using this
  · intro h c hc
    rw [List.mem_iff_getElem] at hc
    obtain ⟨j, hj, rfl⟩ := hc
    simp at hj
    have := h j (by omega)
    simpa using this
end Go.Proofs.YtgiojkhmkeocfaaDoor

/- The reference's line, last of layer 11, walked. -/
namespace Go.Proofs.YtgiojkhmkeocfaaDoor
open Go.RowKit

theorem bat (l : List UInt8) (k : Nat) (h : k < (⟨l.toArray⟩ : ByteArray).size) : (⟨l.toArray⟩ : ByteArray)[k]'h = l[k]'(h) := rfl
attribute [local go_sem] bat ByteArray.extract_mk
theorem is_feed {x : UInt8} (h : x = 10) : ((x.toNat : Int) == 10) = true := by subst h; rfl
theorem no_feed {x : UInt8} (h : x ≠ 10) : ((x.toNat : Int) == 10) = false := by
  have : x.toNat ≠ 10 := fun e => h (UInt8.toNat_inj.1 e)
  rw [beq_eq_false_iff_ne]; omega
theorem idx_s (L : List UInt8) (i : Int) (k : Nat) (hk : k < L.length) (hi : i = k) (w : World) :
    (Instr.index 9 (.string ⟨L.toArray⟩) (.int .i64 i)).run Tryd.prog w = .ok (.int .u8 (L[k].toNat : Int)) w := by
  subst hi
  rw [run_index_string w 9 ⟨L.toArray⟩ .i64 (k : Int) Tryd.underlying9]
  have hs : (⟨L.toArray⟩ : ByteArray).size = L.length := rfl
  rw [dif_pos ⟨by omega, by rw [hs]; omega⟩]
  rfl
theorem wrap_s {n : Int} (h0 : -9223372036854775808 ≤ n) (h1 : n ≤ 9223372036854775807) : IntKind.i64.wrap n = n := by
  simp [IntKind.wrap, IntKind.bits, IntKind.signed]
  split <;> omega
theorem fd_last {s : List UInt8} (h : 0 < s.length) : fdB s = (s[s.length - 1] == 10) := by
  unfold fdB
  rw [List.getLast?_eq_getElem?, List.getElem?_eq_getElem (by omega)]
  rfl

set_option maxHeartbeats 2000000 in
theorem rline_f (s : List UInt8) (w : World) (hl : s.length ≤ 1099511627776) (p q : Bool) (HP : Hid (linB s = p)) (HQ : Hid ((linB s && fdB s) = q)) : Calls Tryd.prog 159 #[.string ⟨s.toArray⟩] w fun e w' => e = .returned (.tuple #[.bool p, .bool q]) ∧ ∃ n, w' = w.drewN n := by
  by_cases h0 : s = []
  · subst h0
    obtain rfl : p = false := by rw [← HP.out]; rfl
    obtain rfl : q = false := by rw [← HQ.out]; rfl
    clear HP HQ
    go_enter Tryd.func159, Tryd.ntmps159
    go_wp2
    go_ret2
    exact ⟨rfl, 0, rfl⟩
  · have h1 : 0 < s.length := by
      cases s with
      | nil => exact absurd rfl h0
      | cons => simp
    have hz : decide ((s.length : Int) = 0) = false := decide_eq_false (by omega)
    have hz2 : ((s.length : Int) == 0) = false := by rw [beq_eq_false_iff_ne]; omega
    have H0 : Hid (s ≠ []) := h0
    clear h0
    go_enter Tryd.func159, Tryd.ntmps159
    go_wp2
    go_loopw [4] (fun iv wr => ∃ k : Nat, k + 1 ≤ s.length ∧ iv = .int .i64 (k : Int) ∧ wr = w ∧ Hid (∀ (j : Nat) (hj : j < s.length), j < k → s[j] ≠ 10)) (fun iv _ => s.length - (intOf iv).toNat)
    case atStart => exact ⟨0, by omega, by go_num, rfl, fun j _ h => by omega⟩
    case round =>
      obtain ⟨k, hk, rfl, rfl, HK⟩ := hrel
      by_cases hlt : k + 1 < s.length
      · have j1 : (k : Int) < (s.length : Int) - 1 := by omega
        by_cases h10 : s[k] = 10
        · have hb := is_feed h10
          have hlin : linB s = false := by
            cases hq : linB s with
            | false => rfl
            | true => exact absurd h10 ((lin_at H0.out).1 hq k hlt)
          obtain rfl : p = false := by rw [← HP.out]; exact hlin
          obtain rfl : q = false := by rw [← HQ.out, hlin]; rfl
          clear h10 hlin HP HQ
          go_wp2
          go_ret2
          exact ⟨rfl, 0, rfl⟩
        · have hb := no_feed h10
          have HK2 : Hid (∀ (j : Nat) (hj : j < s.length), j < k + 1 → s[j] ≠ 10) := (fun j hj h => by
            by_cases e : j = k
            · subst e; exact h10
            · exact HK.out j hj (by omega))
          clear h10
          go_wp2
          exact ⟨⟨k + 1, by omega, by go_num, trivial, HK2⟩, by simp [intOf]; omega⟩
      · have j1 : ¬ (k : Int) < (s.length : Int) - 1 := by omega
        have j2 : decide ((k : Int) < (s.length : Int) - 1) = false := decide_eq_false j1
        have hlin : linB s = true := (lin_at H0.out).2 fun j hj => HK.out j (by omega) (by omega)
        obtain rfl : p = true := by rw [← HP.out]; exact hlin
        have hq2 : q = (s[s.length - 1] == 10) := by rw [← HQ.out, hlin, fd_last h1]; rfl
        have i1 : (0 : Int) ≤ (s.length : Int) - 1 := by omega
        have i2 : (s.length : Int) - 1 < (s.length : Int) := by omega
        have i3 : IntKind.i64.wrap ((s.length : Int) - 1) = (s.length : Int) - 1 := wrap_s (by omega) (by omega)
        have i4 := idx_s s ((s.length : Int) - 1) (s.length - 1) (by omega) (by omega)
        clear HP HQ hlin HK
        by_cases h10 : s[s.length - 1] = 10
        · have hb := is_feed h10
          obtain rfl : q = true := by rw [hq2, h10]; rfl
          clear hq2 h10
          go_wp2_with fail
          go_quiet (fail)
          go_wp2
          go_ret2
          exact ⟨rfl, _, rfl⟩
        · have hb := no_feed h10
          obtain rfl : q = false := by rw [hq2]; simpa using h10
          clear hq2 h10
          go_wp2_with fail
          go_quiet (fail)
          go_wp2
          go_ret2
          exact ⟨rfl, _, rfl⟩

set_option maxHeartbeats 2000000 in
theorem rlast_f (h : Hk) (v : Value) (at0 : Nat) (sg : Int) (w : World) (hv : HMk w v h.ls) (hl : h.ls.length ≤ 1099511627776) (hat : at0 ≤ h.ls.length) (r : Bool) (HR : Hid (lstB sg (h.ls.drop (at0 + 1)) = r)) : Calls Tryd.prog 160 #[hkV h v, .int .i64 (at0 : Int), .int .u8 sg] w fun e w' => e = .returned (.bool r) ∧ Below w.heap.size w w' := by
  obtain ⟨A, AN, B, BN, ls⟩ := h
  dsimp only at hv hl HR hat
  obtain ⟨lo, lc, rfl⟩ := HMk.form hv
  have hx := Hx.new w ⟨A, AN, B, BN, ls⟩ (.slice lo ls.length lc)
  have hBl : Below w.heap.size w (w.alloc (hkO ⟨A, AN, B, BN, ls⟩ (.slice lo ls.length lc))) := (Below.refl _ w).alloc (Nat.le_refl _) _
  have hv1 := HMk.keep hv hBl (Nat.le_refl _)
  unfold hkV
  dsimp only
  go_enter Tryd.func160, Tryd.ntmps160
  go_wp2
  have hW : w.alloc (hkO ⟨A, AN, B, BN, ls⟩ (.slice lo ls.length lc)) = w.alloc (Obj.cells #[Value.int IntKind.i64 A, Value.int IntKind.i64 AN, Value.int IntKind.i64 B, Value.int IntKind.i64 BN, .slice lo ls.length lc] 43) := rfl
  rw [← hW]
  clear hW hv
  generalize w.alloc (hkO ⟨A, AN, B, BN, ls⟩ (.slice lo ls.length lc)) = W at *
  go_loopw [7] (fun iv wr => ∃ (k : Nat), k ≤ ls.length + 1 ∧ iv = .int .i64 (k : Int) ∧ wr = W ∧ Hid (lstB sg (ls.drop k) = r)) (fun iv _ => ls.length + 1 - (intOf iv).toNat)
  case atStart => exact ⟨at0 + 1, by omega, by go_num, rfl, HR⟩
  case round =>
    obtain ⟨k, hk, rfl, rfl, HI⟩ := hrel
    obtain ⟨_, _, _, _, d4⟩ := hx.cells
    by_cases hlt : k < ls.length
    · obtain ⟨b, off, rfl, hb, hc⟩ := HMk.at hv1 (by omega)
      obtain ⟨c0, c1⟩ := hc k hlt
      obtain ⟨m, hm⟩ : ∃ m, ls[k] = m := ⟨_, rfl⟩
      rw [hm] at c0 c1
      have HI2 : Hid (((decide (m.sg ≠ sg) && decide (m.sg ≠ 32)) && lstB sg (ls.drop (k + 1))) = r) := (by
        show _ = _
        rw [← HI.out, List.drop_eq_getElem_cons hlt, hm]
        rfl)
      obtain ⟨s, tx⟩ := m
      dsimp only at c0 c1 HI2
      clear HI hm HR hc c1
      have i1 : 0 ≤ (k : Int) := by omega
      have i2 : (k : Int) < (ls.length : Int) := by omega
      by_cases h0 : s = sg
      · subst h0
        obtain rfl : r = false := by rw [← HI2.out]; simp
        clear HI2
        go_wp2
        go_ret
        exact ⟨rfl, hBl⟩
      · have e0 : (s == sg) = false := by simpa using h0
        by_cases h1 : s = 32
        · subst h1
          obtain rfl : r = false := by rw [← HI2.out]; simp
          clear HI2
          go_wp2
          go_ret
          exact ⟨rfl, hBl⟩
        · have e1 : (s == 32) = false := by simpa using h1
          have HI3 : Hid (lstB sg (ls.drop (k + 1)) = r) := (by
            show _ = _
            rw [← HI2.out]
            simp [h0, h1])
          clear HI2
          go_wp2
          exact ⟨⟨k + 1, by omega, by go_num, trivial, HI3⟩, by simp [intOf]; omega⟩
    · obtain rfl : r = true := by
        rw [← HI.out, List.drop_of_length_le (by omega)]
        rfl
      have hend : decide ((k : Int) < (ls.length : Int)) = false := decide_eq_false (by omega)
      clear HI
      go_wp2
      go_ret
      exact ⟨rfl, hBl⟩
end Go.Proofs.YtgiojkhmkeocfaaDoor

/- The reference's fields of layer 11, walked. -/
namespace Go.Proofs.YtgiojkhmkeocfaaDoor
open Go.RowKit

/-- a line in a box -/
def mkO (m : Mk) : Obj := .cells #[.int .u8 m.sg, .string ⟨m.tx.toArray⟩] 91
def Mx (u : World) (b : Nat) (m : Mk) : Prop := u.heap[b]? = some (mkO m)
section
variable {u u' : World} {b : Nat} {m : Mk}
theorem Mx.cells (q : Mx u b m) : u.cell? ⟨b, 0, none⟩ = some (.int .u8 m.sg) ∧ u.cell? ⟨b, 1, none⟩ = some (.string ⟨m.tx.toArray⟩) := by
  unfold Mx mkO at q
  refine ⟨?_, ?_⟩ <;> rw [Lib.cell_of_heap q] <;> rfl
theorem Mx.lt (q : Mx u b m) : b < u.heap.size := (Array.getElem?_eq_some_iff.1 q).1
theorem Mx.low (q : Mx u b m) (hg : Below u.heap.size u u') : Mx u' b m := (hg.block b q.lt).trans q
theorem Mx.new (w : World) (m : Mk) : Mx (w.alloc (mkO m)) w.heap.size m := _root_.Go.heap_alloc_new w _
end
theorem Hx.row {W : World} {b : Nat} {h : Hk} {v : Value} (q : Hx W b h v) (n : Nat) : Hx (W.drewN n) b h v := q

set_option maxHeartbeats 4000000 in
theorem rfields_f (h : Hk) (v : Value) (w : World) (hv : HMk w v h.ls) (hl : h.ls.length ≤ 1099511627776) (htx : ∀ m ∈ h.ls, m.tx.length ≤ 1099511627776) (r : Bool) (HR : Hid (fldB h.ls = r)) : Calls Tryd.prog 133 #[hkV h v] w fun e w' => e = .returned (.bool r) ∧ Below w.heap.size w w' := by
  obtain ⟨A, AN, B, BN, ls⟩ := h
  dsimp only at hv hl HR htx
  obtain ⟨lo, lc, rfl⟩ := HMk.form hv
  have hx := Hx.new w ⟨A, AN, B, BN, ls⟩ (.slice lo ls.length lc)
  have hBl : Below w.heap.size w (w.alloc (hkO ⟨A, AN, B, BN, ls⟩ (.slice lo ls.length lc))) := (Below.refl _ w).alloc (Nat.le_refl _) _
  have hv1 := HMk.keep hv hBl (Nat.le_refl _)
  have HTX : Hid (∀ m ∈ ls, m.tx.length ≤ 1099511627776) := htx
  clear htx
  unfold hkV
  dsimp only
  go_enter Tryd.func133, Tryd.ntmps133
  go_wp2
  have hW : w.alloc (hkO ⟨A, AN, B, BN, ls⟩ (.slice lo ls.length lc)) = w.alloc (Obj.cells #[Value.int IntKind.i64 A, Value.int IntKind.i64 AN, Value.int IntKind.i64 B, Value.int IntKind.i64 BN, .slice lo ls.length lc] 43) := rfl
  rw [← hW]
  have HSZ : Hid ((w.alloc (hkO ⟨A, AN, B, BN, ls⟩ (.slice lo ls.length lc))).heap.size = w.heap.size + 1) := (by show _ = _; simp)
  clear hW hv
  generalize w.alloc (hkO ⟨A, AN, B, BN, ls⟩ (.slice lo ls.length lc)) = W at *
  go_loopw [3] (fun iv wr => ∃ (k : Nat), k ≤ ls.length ∧ iv = .int .i64 (k : Int) ∧ Below W.heap.size W wr ∧ Hid (fldB (ls.drop k) = r)) (fun iv _ => ls.length - (intOf iv).toNat)
  case atStart => exact ⟨0, Nat.zero_le _, by go_num, Below.refl _ _, HR⟩
  case round =>
    obtain ⟨k, hk, rfl, hB, HI⟩ := hrel
    obtain ⟨x0, x1, x2, x3, x4⟩ := (hx.low hB).cells
    by_cases hlt : k < ls.length
    · obtain ⟨b, off, rfl, hb, _⟩ := HMk.at hv1 (by omega)
      obtain ⟨m, hm⟩ : ∃ m, ls[k] = m := ⟨_, rfl⟩
      obtain ⟨c0, c1⟩ := Low.mk hB hv1 k hlt hm
      have htl : m.tx.length ≤ 1099511627776 := HTX.out m (by rw [← hm]; exact List.getElem_mem hlt)
      have HI2 : Hid ((linB m.tx && okS m.sg && (fdB m.tx || ((decide (m.sg = 43) || lstB 45 (ls.drop (k + 1))) && (decide (m.sg = 45) || lstB 43 (ls.drop (k + 1))))) && fldB (ls.drop (k + 1))) = r) := (by
        show _ = _
        rw [← HI.out, List.drop_eq_getElem_cons hlt, hm]
        rfl)
      have i1 : 0 ≤ (k : Int) := by omega
      have i2 : (k : Int) < (ls.length : Int) := by omega
      have hB2 : Below W.heap.size W (wr.alloc (mkO m)) := hB.alloc hB.size _
      obtain ⟨y0, y1⟩ := (Mx.new wr m).cells
      obtain ⟨z0, z1, z2, z3, z4⟩ := (hx.low hB2).cells
      obtain ⟨sg, tx⟩ := m
      obtain ⟨p, hp⟩ : ∃ p, linB tx = p := ⟨_, rfl⟩
      obtain ⟨q, hq⟩ : ∃ q, (linB tx && fdB tx) = q := ⟨_, rfl⟩
      have HP : Hid (linB tx = p) := hp
      have HQ : Hid ((linB tx && fdB tx) = q) := hq
      dsimp only at c0 c1 HI2 y0 y1 z0 z1 z2 z3 z4 x0 x1 x2 x3 x4
      unfold mkO at hB2 y0 y1 z0 z1 z2 z3 z4
      dsimp only at hB2 y0 y1 z0 z1 z2 z3 z4
      clear HI hm HR hp hq
      go_wp2_with fail
      generalize wr.alloc (Obj.cells #[Value.int IntKind.u8 sg, Value.string ⟨tx.toArray⟩] 91) = W2 at *
      refine (rline_f tx W2 htl p q HP HQ).mono ?_
      rintro e w3 ⟨rfl, n3, rfl⟩
      have hB3 : Below W.heap.size W (W2.drewN n3) := Below.dN hB2 n3
      have hv3 := HMk.keep hv1 hB3 (Nat.le_refl _)
      have y0' : (W2.drewN n3).cell? ⟨wr.heap.size, 0, none⟩ = some (.int .u8 sg) := y0
      have z0' : (W2.drewN n3).cell? ⟨w.heap.size, 0, none⟩ = some (.int .i64 A) := z0
      have z1' : (W2.drewN n3).cell? ⟨w.heap.size, 1, none⟩ = some (.int .i64 AN) := z1
      have z2' : (W2.drewN n3).cell? ⟨w.heap.size, 2, none⟩ = some (.int .i64 B) := z2
      have z3' : (W2.drewN n3).cell? ⟨w.heap.size, 3, none⟩ = some (.int .i64 BN) := z3
      have z4' : (W2.drewN n3).cell? ⟨w.heap.size, 4, none⟩ = some (.slice (some ⟨b, off, none⟩) ls.length lc) := z4
      clear y0 y1 z0 z1 z2 z3 z4 x0 x1 x2 x3 x4 c0 c1 hB2
      generalize W2.drewN n3 = W3 at *
      have HF : Hid (Below w.heap.size w W3) := hBl.trans (hB3.mono (by have := HSZ.out; omega))
      cases p with
      | false =>
        obtain rfl : r = false := by rw [← HI2.out, HP.out]; rfl
        clear HI2 HP HQ
        go_wp2
        go_ret
        exact ⟨rfl, HF.out⟩
      | true =>
        by_cases h1 : sg = 32
        · subst h1
          cases q with
          | true =>
            have HI4 : Hid (fldB (ls.drop (k + 1)) = r) := (by
              have hfd : fdB tx = true := by have := HQ.out; rw [HP.out] at this; simpa using this
              show _ = _
              rw [← HI2.out, HP.out, hfd]
              simp [okS])
            clear HI2 HP HQ
            go_wp2
            exact ⟨⟨k + 1, by omega, by go_num, hB3, HI4⟩, by simp [intOf]; omega⟩
          | false =>
            have hfd : fdB tx = false := by have := HQ.out; rw [HP.out] at this; simpa using this
            obtain ⟨r1, h1⟩ : ∃ r1, lstB 45 (ls.drop (k + 1)) = r1 := ⟨_, rfl⟩
            obtain ⟨r2, h2⟩ : ∃ r2, lstB 43 (ls.drop (k + 1)) = r2 := ⟨_, rfl⟩
            have HI3 : Hid ((r1 && r2 && fldB (ls.drop (k + 1))) = r) := (by
              show _ = _
              rw [← HI2.out, HP.out, hfd, h1, h2]
              simp [okS])
            have H1 : Hid (lstB 45 (ls.drop (k + 1)) = r1) := h1
            have H2 : Hid (lstB 43 (ls.drop (k + 1)) = r2) := h2
            clear HI2 HP HQ hfd h1 h2
            go_wp2_with fail
            refine (rlast_f ⟨A, AN, B, BN, ls⟩ _ k 45 W3 hv3 hl hk r1 H1).mono ?_
            rintro e w4 ⟨rfl, hB4⟩
            have hB04 := hB3.trans (hB4.mono hB3.size)
            have HF4 : Hid (Below w.heap.size w w4) := HF.out.trans (hB4.mono HF.out.size)
            cases r1 with
            | false =>
              obtain rfl : r = false := by rw [← HI3.out]; rfl
              clear HI3 H1 H2
              go_wp2
              go_ret
              exact ⟨rfl, HF4.out⟩
            | true =>
              have hv4 := HMk.keep hv1 hB04 (Nat.le_refl _)
              obtain ⟨t0, t1, t2, t3, t4⟩ := (hx.low hB04).cells
              have y4 : w4.cell? ⟨wr.heap.size, 0, none⟩ = some (.int .u8 32) := (World.cell?_of_block (w := W3) (hB4.block _ (World.block_lt_of_cell? _ _ y0'))).trans y0'
              dsimp only at t0 t1 t2 t3 t4
              clear y0' z0' z1' z2' z3' z4'
              go_wp2_with fail
              refine (rlast_f ⟨A, AN, B, BN, ls⟩ _ k 43 w4 hv4 hl hk r2 H2).mono ?_
              rintro e w5 ⟨rfl, hB5⟩
              have hB05 := hB04.trans (hB5.mono hB04.size)
              have HF5 : Hid (Below w.heap.size w w5) := HF4.out.trans (hB5.mono HF4.out.size)
              cases r2 with
              | false =>
                obtain rfl : r = false := by rw [← HI3.out]; rfl
                clear HI3 H1 H2
                go_wp2
                go_ret
                exact ⟨rfl, HF5.out⟩
              | true =>
                have HI4 : Hid (fldB (ls.drop (k + 1)) = r) := (by show _ = _; rw [← HI3.out]; rfl)
                clear HI3 H1 H2
                go_wp2
                exact ⟨⟨k + 1, by omega, by go_num, hB05, HI4⟩, by simp [intOf]; omega⟩
        · have e1 : (sg == 32) = false := by simpa using h1
          by_cases h2 : sg = 45
          · subst h2
            cases q with
            | true =>
              have HI4 : Hid (fldB (ls.drop (k + 1)) = r) := (by
                have hfd : fdB tx = true := by have := HQ.out; rw [HP.out] at this; simpa using this
                show _ = _
                rw [← HI2.out, HP.out, hfd]
                simp [okS])
              clear HI2 HP HQ
              go_wp2
              exact ⟨⟨k + 1, by omega, by go_num, hB3, HI4⟩, by simp [intOf]; omega⟩
            | false =>
              have hfd : fdB tx = false := by have := HQ.out; rw [HP.out] at this; simpa using this
              obtain ⟨r1, h1'⟩ : ∃ r1, lstB 45 (ls.drop (k + 1)) = r1 := ⟨_, rfl⟩
              have HI3 : Hid ((r1 && fldB (ls.drop (k + 1))) = r) := (by
                show _ = _
                rw [← HI2.out, HP.out, hfd, h1']
                simp [okS])
              have H1 : Hid (lstB 45 (ls.drop (k + 1)) = r1) := h1'
              clear HI2 HP HQ hfd h1'
              go_wp2_with fail
              refine (rlast_f ⟨A, AN, B, BN, ls⟩ _ k 45 W3 hv3 hl hk r1 H1).mono ?_
              rintro e w4 ⟨rfl, hB4⟩
              have hB04 := hB3.trans (hB4.mono hB3.size)
              have HF4 : Hid (Below w.heap.size w w4) := HF.out.trans (hB4.mono HF.out.size)
              have y4 : w4.cell? ⟨wr.heap.size, 0, none⟩ = some (.int .u8 45) := (World.cell?_of_block (w := W3) (hB4.block _ (World.block_lt_of_cell? _ _ y0'))).trans y0'
              clear y0' z0' z1' z2' z3' z4'
              cases r1 with
              | false =>
                obtain rfl : r = false := by rw [← HI3.out]; rfl
                clear HI3 H1
                go_wp2
                go_ret
                exact ⟨rfl, HF4.out⟩
              | true =>
                have HI4 : Hid (fldB (ls.drop (k + 1)) = r) := (by show _ = _; rw [← HI3.out]; rfl)
                clear HI3 H1
                go_wp2
                exact ⟨⟨k + 1, by omega, by go_num, hB04, HI4⟩, by simp [intOf]; omega⟩
          · have e2 : (sg == 45) = false := by simpa using h2
            by_cases h3 : sg = 43
            · subst h3
              cases q with
              | true =>
                have HI4 : Hid (fldB (ls.drop (k + 1)) = r) := (by
                  have hfd : fdB tx = true := by have := HQ.out; rw [HP.out] at this; simpa using this
                  show _ = _
                  rw [← HI2.out, HP.out, hfd]
                  simp [okS])
                clear HI2 HP HQ
                go_wp2
                exact ⟨⟨k + 1, by omega, by go_num, hB3, HI4⟩, by simp [intOf]; omega⟩
              | false =>
                have hfd : fdB tx = false := by have := HQ.out; rw [HP.out] at this; simpa using this
                obtain ⟨r1, h1'⟩ : ∃ r1, lstB 43 (ls.drop (k + 1)) = r1 := ⟨_, rfl⟩
                have HI3 : Hid ((r1 && fldB (ls.drop (k + 1))) = r) := (by
                  show _ = _
                  rw [← HI2.out, HP.out, hfd, h1']
                  simp [okS])
                have H1 : Hid (lstB 43 (ls.drop (k + 1)) = r1) := h1'
                clear HI2 HP HQ hfd h1'
                go_wp2_with fail
                refine (rlast_f ⟨A, AN, B, BN, ls⟩ _ k 43 W3 hv3 hl hk r1 H1).mono ?_
                rintro e w4 ⟨rfl, hB4⟩
                have hB04 := hB3.trans (hB4.mono hB3.size)
                have HF4 : Hid (Below w.heap.size w w4) := HF.out.trans (hB4.mono HF.out.size)
                have y4 : w4.cell? ⟨wr.heap.size, 0, none⟩ = some (.int .u8 43) := (World.cell?_of_block (w := W3) (hB4.block _ (World.block_lt_of_cell? _ _ y0'))).trans y0'
                clear y0' z0' z1' z2' z3' z4'
                cases r1 with
                | false =>
                  obtain rfl : r = false := by rw [← HI3.out]; rfl
                  clear HI3 H1
                  go_wp2
                  go_ret
                  exact ⟨rfl, HF4.out⟩
                | true =>
                  have HI4 : Hid (fldB (ls.drop (k + 1)) = r) := (by show _ = _; rw [← HI3.out]; rfl)
                  clear HI3 H1
                  go_wp2
                  exact ⟨⟨k + 1, by omega, by go_num, hB04, HI4⟩, by simp [intOf]; omega⟩
            · have e3 : (sg == 43) = false := by simpa using h3
              have n1 : (sg != 32) = true := by simpa using h1
              have n2 : (sg != 45) = true := by simpa using h2
              have n3' : (sg != 43) = true := by simpa using h3
              obtain rfl : r = false := by rw [← HI2.out]; simp [okS, h1, h2, h3]
              clear HI2 HP HQ h1 h2 h3 e1 e2 e3
              go_wp2
              go_ret
              exact ⟨rfl, HF.out⟩
    · obtain rfl : r = true := by
        rw [← HI.out, List.drop_of_length_le (by omega)]
        rfl
      have hend : decide ((k : Int) < (ls.length : Int)) = false := decide_eq_false (by omega)
      clear HI
      go_wp2
      go_ret
      exact ⟨rfl, hBl.trans (hB.mono (by have := HSZ.out; omega))⟩
end Go.Proofs.YtgiojkhmkeocfaaDoor

/- Steps of a region that draws its order, taken one by one where a guard says no: reads, calls by their contracts. -/
namespace Go.Proofs.YtgiojkhmkeocfaaDoor
open Go.RowKit

theorem step_want {b : Bool} {X Y : Prop} (h : b = true) (hX : X) : if b = true then X else Y := by
  rw [if_pos h]
  exact hX
theorem step_none {b : Bool} {X Y : Prop} (h : b = false) (hY : Y) : if b = true then X else Y := by
  rw [if_neg (by rw [h]; exact Bool.false_ne_true)]
  exact hY
/-- an operation that reads alone, or is not wanted, from one stage of the region to the next -/
theorem go_take {P : Program} {S : World → Prop} {md : Region.Mode} {ops : Array Oper} {Q : Exit → Act → World → Prop} {fuel : Nat} {listed : Array Bool} {A : Act} {w : World}
    (i d : Nat) (op : Oper) (v : Value) (hi : ops[i]? = some op) (hd : op.dst = some d) (hs : Region.noSelect ops = true) (hf : Region.free md ops listed i = true) (hr : (Region.ready md ops listed).contains i = true)
    (hQ : ∀ c a w, Q (.panic c) (a.put op.dst v) w → Q (.panic c) a w) (hy : YieldsIf P ops S op v A) (hS : S w)
    (h : wpAnyH P md ops Q S fuel (listed.setIfInBounds i true) (A.put (some d) v) w) : wpAnyH P md ops Q S (fuel + 1) listed A w :=
  wpAnyH_take hi hs hf hr hQ hy hS (by rw [hd]; exact h)
/-- an operation that is not wanted, where nothing else may come up -/
theorem go_none {P : Program} {S : World → Prop} {md : Region.Mode} {ops : Array Oper} {Q : Exit → Act → World → Prop} {fuel : Nat} {listed : Array Bool} {A : Act} {w : World}
    (i d : Nat) (op : Oper) (hi : ops[i]? = some op) (hd : op.dst = some d) (hr : Region.ready md ops listed = [i]) (hwt : Region.wanted op (yielded ops A.tmps) = false) (hS : S w)
    (h : wpAnyH P md ops Q S fuel (listed.setIfInBounds i true) (A.put (some d) undef) w) :
    wpAnyH P md ops Q S (fuel + 1) listed A w := by
  refine wpAnyH_ready hr (by simp) (AllReadyH.cons hi (fun K hK => ?_) AllReadyH.nil)
  refine step_none hwt ?_
  exact hK.out _ _ hS (fun _ => by rw [hd]; exact h)
/-- a call by its contract, where nothing else may come up -/
theorem go_callH {P : Program} {S : World → Prop} {md : Region.Mode} {ops : Array Oper} {Q : Exit → Act → World → Prop} {fuel : Nat} {listed : Array Bool} {A : Act} {w : World}
    (i d : Nat) (op : Oper) (hi : ops[i]? = some op) (hd : op.dst = some d) (hr : Region.ready md ops listed = [i]) (hwt : Region.wanted op (yielded ops A.tmps) = true)
    (F : Nat) (xs : Array Operand) (ts : Array TypeId) (ho : op.op = .call { callee := .value (.func F), args := xs, argTypes := ts })
    (args : Array Value) (hx : xs.map A.eval = args) (hen : ∀ args w, (callFunc F args).run P w = .ok (.enter F args) w) (v : Value)
    (hc : Calls P F args w fun e w' => e = .returned v ∧ S w')
    (h : ∀ w', S w' → wpAnyH P md ops Q S fuel (listed.setIfInBounds i true) (A.put (some d) v) w') :
    wpAnyH P md ops Q S (fuel + 1) listed A w := by
  refine wpAnyH_ready hr (by simp) (AllReadyH.cons hi (fun K hK => ?_) AllReadyH.nil)
  refine step_want hwt ?_
  unfold Oper.wp
  have e : (execOp A.eval op).run P w = .ok (.enter F args) w := by
    have h1 := hen args w
    simp only [execOp, ho, resolve, invoke]
    have h2 : A.eval (.func F) = .func (.func F) #[] #[] := rfl
    simp only [h2, Deferred.ofValue, Sem.run_bind, Sem.run_pure, Result.andThen_ok, hx, Array.append_empty, Array.empty_append]
    exact h1
  rw [e, Oper.upon_enter]
  refine hc.mono ?_
  rintro e w' ⟨rfl, hb⟩
  exact hK.out _ _ hb (fun hu => by rw [hd]; exact h w' hu)
/-- a call of whatever function value by its contract, where nothing else may come up; R: what is told of what is answered -/
theorem go_callE {P : Program} {S : World → Prop} {md : Region.Mode} {ops : Array Oper} {Q : Exit → Act → World → Prop} {fuel : Nat} {listed : Array Bool} {A : Act} {w : World}
    (i d : Nat) (op : Oper) (hi : ops[i]? = some op) (hd : op.dst = some d) (hr : Region.ready md ops listed = [i]) (hwt : Region.wanted op (yielded ops A.tmps) = true)
    (F : Nat) (x : Operand) (xs : Array Operand) (ts : Array TypeId) (ho : op.op = .call { callee := .value x, args := xs, argTypes := ts })
    (cap : Array Value) (hxv : A.eval x = .func (.func F) #[] cap) (args : Array Value) (hx : xs.map A.eval = args) (hen : ∀ args w, (callFunc F args).run P w = .ok (.enter F args) w) (R : Value → World → Prop)
    (hc : Calls P F (args ++ cap) w fun e w' => ∃ v, e = .returned v ∧ S w' ∧ R v w')
    (h : ∀ v w', S w' → R v w' → wpAnyH P md ops Q S fuel (listed.setIfInBounds i true) (A.put (some d) v) w') :
    wpAnyH P md ops Q S (fuel + 1) listed A w := by
  refine wpAnyH_ready hr (by simp) (AllReadyH.cons hi (fun K hK => ?_) AllReadyH.nil)
  refine step_want hwt ?_
  unfold Oper.wp
  have e : (execOp A.eval op).run P w = .ok (.enter F (args ++ cap)) w := by
    have h1 := hen (args ++ cap) w
    simp only [execOp, ho, resolve, invoke]
    simp only [hxv, Deferred.ofValue, Sem.run_bind, Sem.run_pure, Result.andThen_ok, hx, Array.empty_append]
    exact h1
  rw [e, Oper.upon_enter]
  refine hc.mono ?_
  rintro e w' ⟨v, rfl, hb, hR⟩
  exact hK.out _ _ hb (fun hu => by rw [hd]; exact h v w' hu hR)
/-- an operation that yields a value, whatever it does to memory, where nothing else may come up -/
theorem go_val {P : Program} {S : World → Prop} {md : Region.Mode} {ops : Array Oper} {Q : Exit → Act → World → Prop} {fuel : Nat} {listed : Array Bool} {A : Act} {w : World}
    (i d : Nat) (op : Oper) (hi : ops[i]? = some op) (hd : op.dst = some d) (hr : Region.ready md ops listed = [i]) (hwt : Region.wanted op (yielded ops A.tmps) = true)
    (v : Value) (w' : World) (he : (execOp A.eval op).run P w = .ok (.value v) w') (hS : S w')
    (h : wpAnyH P md ops Q S fuel (listed.setIfInBounds i true) (A.put (some d) v) w') :
    wpAnyH P md ops Q S (fuel + 1) listed A w := by
  refine wpAnyH_ready hr (by simp) (AllReadyH.cons hi (fun K hK => ?_) AllReadyH.nil)
  refine step_want hwt ?_
  unfold Oper.wp
  rw [he, Oper.upon_value]
  exact hK.out _ _ hS (fun _ => by rw [hd]; exact h)
/-- a store, where nothing else may come up -/
theorem go_skip {P : Program} {S : World → Prop} {md : Region.Mode} {ops : Array Oper} {Q : Exit → Act → World → Prop} {fuel : Nat} {listed : Array Bool} {A : Act} {w : World}
    (i : Nat) (op : Oper) (hi : ops[i]? = some op) (hd : op.dst = none) (hr : Region.ready md ops listed = [i]) (hwt : Region.wanted op (yielded ops A.tmps) = true)
    (w' : World) (he : (execOp A.eval op).run P w = .ok .skip w') (hS : S w')
    (h : wpAnyH P md ops Q S fuel (listed.setIfInBounds i true) A w') :
    wpAnyH P md ops Q S (fuel + 1) listed A w := by
  refine wpAnyH_ready hr (by simp) (AllReadyH.cons hi (fun K hK => ?_) AllReadyH.nil)
  refine step_want hwt ?_
  unfold Oper.wp
  rw [he, Oper.upon_skip]
  exact hK.out _ _ hS (fun _ => by rw [hd]; exact h)
/-- a number, a slice, a function value is read -/
theorem load_int {u : World} {a : Addr} {z : Int} (h : u.cell? a = some (.int .i64 z)) {op : Oper} (x : Operand) (ho : op.op = .load 3 x) {ev : Operand → Value} (hx : ev x = .pointer (some a)) :
    (execOp ev op).run Tryd.prog u = .ok (.value (.int .i64 z)) u := by
  simp only [execOp, ho, hx]
  go_simp
end Go.Proofs.YtgiojkhmkeocfaaDoor
