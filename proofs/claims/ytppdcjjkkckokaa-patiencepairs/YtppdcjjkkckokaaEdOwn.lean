/-
  A row of the caller's own, in a box, within a range over the iterator.
-/
import Derived.Test.YtppdcjjkkckokaaEdIter
namespace Go.Proofs.Ytppdcjjkkckokaa
open Go.RowKit Go.Shelf
attribute [local go_sem] Oper.semAt_some

theorem wpListIn_append_h {F : Fence} {n : Nat} (w : World) {ops : Array Oper} {rest : List Oper} {o : Oper} {a : Act} {Q : Exit → Act → World → Prop}
    (hg : o.guard = none) (s x : Operand) (T E : TypeId) (ho : o.op = Op.call { callee := Callee.builtin Builtin.append, args := #[s, x], argTypes := #[T, T] })
    (z : Value) (size bytes : Nat) (hT : Try.prog.underlying T = some (.slice E)) (hinfo : (Try.prog.info? E).map (fun i => (i.zero, i.size, i.bytes)) = some (some z, size, bytes)) (hz1 : z.cells.size = size) (hsz : 0 < size) (hby : bytes ≤ 32)
    (base : Nat) (v : Value) (k : Nat) (xs : List Value) (hs : a.eval s = v) (hown : w.ownsRow base E size v k xs) (vx : Value) (m : Nat) (news : List Value) (hx : a.eval x = vx) (hh : Holds w vx m news) (hl : news.length = m * size)
    (h1 : ∀ u ∈ news, u.oneCell' = true) (hk : k + m ≤ 4398046511104) (hbase : base ≤ w.heap.size)
    (h : ∀ v' w', w'.ownsRow base E size v' (k + m) (xs ++ news) → w.grownBy w' v.ownBlock → (v'.ownBlock = v.ownBlock ∨ v'.ownBlock = some w.heap.size) → wpListIn F n Try.prog ops Q rest (a.put o.dst v') w') :
    wpListIn F n Try.prog ops Q (o :: rest) a w := by
  refine wpListIn_plain hg fun K hK' => ?_
  obtain ⟨i0, hi, hz0, hzs, hz2⟩ := info_parts hinfo
  have hrun : ∃ v' w', (Builtin.append_ #[T, T] o.type #[v, vx]).run Try.prog w = .ok v' w' ∧ w'.ownsRow base E size v' (k + m) (xs ++ news) ∧ w.grownBy w' v.ownBlock ∧ (v'.ownBlock = v.ownBlock ∨ v'.ownBlock = some w.heap.size) := by
    rcases hh with ⟨rfl, rfl, rfl⟩ | ⟨ad, c, rfl, _, hc⟩
    · exact ⟨v, w, run_append_owned_none (P := Try.prog) (w := w) base T o.type E i0 size hT hi v k xs hown, by simpa using hown, World.grownBy.refl _ _, .inl rfl⟩
    · obtain ⟨v', w', hr, h2, h3, _, h5⟩ := run_append_own_at (P := Try.prog) w base T o.type E i0 z size bytes hT hi hz0 hzs hz2 hz1 hsz v k xs hown ad m c news hl hc h1 (by unfold maxLen; omega) (by
        have : (k + m) * bytes ≤ (k + m) * 32 := Nat.mul_le_mul_left _ hby
        omega) hbase
      exact ⟨v', w', hr, h2, h3, h5⟩
  obtain ⟨v', w', hrun, r1, r2, r3⟩ := hrun
  unfold Oper.wpIn
  refine ⟨?_, ?_⟩
  · simp [Oper.about, ho, resolve, Target.leads, Sem.run_pure]
  · rw [Oper.semAt_plain F _ _ (by rw [ho]; intro c hc'; cases hc')]
    simp [execOp, ho, resolve, invoke, builtin, hs, hx, hrun, Result.andThen]
    exact hK' _ _ (h v' w' r1 r2 r3)

theorem new_holds (W : World) (cs : Array Value) (e : TypeId) (k c : Nat) (hkc : k ≤ c) : Holds (W.alloc (.cells cs e)) (.slice (some ⟨W.heap.size, 0, none⟩) k c) k cs.toList := by
  refine .inr ⟨_, _, rfl, hkc, fun j u hj => ?_⟩
  rw [add_none, Lib.cell_of_heap (_root_.Go.heap_alloc_new W _)]
  simpa using hj
/-- a row of the caller's own, in a box of his; the row lies apart from the iterator's boxes -/
structure OwnR (n₀ lo B : Nat) (t e : TypeId) (s : Nat) (v : Value) (k : Nat) (xs : List Value) (W : World) : Prop where
  box : Boxed W B t v
  row : W.ownsRow n₀ e s v k xs
  far : ∀ g, v.ownBlock = some g → g < lo ∨ lo + 3 ≤ g
section
variable {n₀ lo B : Nat} {t e : TypeId} {s : Nat} {v : Value} {k : Nat} {xs : List Value} {W : World}
theorem OwnR.alloc (h : OwnR n₀ lo B t e s v k xs W) (o : Obj) : OwnR n₀ lo B t e s v k xs (W.alloc o) := ⟨h.box.alloc o, h.row.alloc o, h.far⟩
theorem OwnR.appended {w1 : World} {v' : Value} {m : Nat} {ys : List Value} (h : OwnR n₀ lo B t e s v k xs W) (hte : t ≠ e) (htC : t ≠ 59) (heC : e ≠ 59) (hn : n₀ ≤ B) (hB : B < lo) (hsz : lo + 3 ≤ W.heap.size)
    (hown' : w1.ownsRow n₀ e s v' m ys) (hgrow : W.grownBy w1 v.ownBlock) (hp : v'.ownBlock = v.ownBlock ∨ v'.ownBlock = some W.heap.size) :
    Boxed w1 B t v ∧ OwnR n₀ lo B t e s v' m ys (w1.setCell ⟨B, 0, none⟩ v') ∧ KeepsOthers W (w1.setCell ⟨B, 0, none⟩ v') ∧ Kp n₀ lo W (w1.setCell ⟨B, 0, none⟩ v') ∧
      ∀ (j : Nat) (cs : Array Value) (u : TypeId), W.heap[j]? = some (Obj.cells cs u (0, 0)) → u ≠ t → u ≠ e → (w1.setCell ⟨B, 0, none⟩ v').heap[j]? = some (Obj.cells cs u (0, 0)) := by
  have hv1 : Boxed w1 B t v := h.box.kept hgrow (h.box.not_row hte h.row)
  have hset := grownBy_setCell' w1 B v'
  have hrow : ∀ j, v.ownBlock = some j → ∃ cur, W.heap[j]? = some (.cells cur e (0, 0)) ∧ n₀ ≤ j := by
    intro j ej
    rcases h.row.2 with ⟨rfl, _⟩ | ⟨g, cap, cur, rfl, hb, hgb, _⟩
    · simp [Value.ownBlock] at ej
    · obtain rfl : g = j := by simpa [Value.ownBlock] using ej
      exact ⟨cur, hgb, hb⟩
  have hall : ∀ (j : Nat) (cs : Array Value) (u : TypeId), W.heap[j]? = some (Obj.cells cs u (0, 0)) → u ≠ t → u ≠ e → (w1.setCell ⟨B, 0, none⟩ v').heap[j]? = some (Obj.cells cs u (0, 0)) := by
    intro j cs u hj hut hue
    have hlt := (Array.getElem?_eq_some_iff.1 hj).1
    have e1 : w1.heap[j]? = W.heap[j]? := hgrow.block j hlt (fun ej => by
      obtain ⟨cur, hc, _⟩ := hrow j ej.symm
      rw [hj] at hc
      cases hc
      exact hue rfl)
    refine (hset.block j (Nat.lt_of_lt_of_le hlt hgrow.size) (fun ej => ?_)).trans (e1.trans hj)
    cases ej
    have := h.box
    unfold Boxed at this
    rw [hj] at this
    cases this
    exact hut rfl
  refine ⟨hv1, ⟨hv1.set v', hown'.kept hset (.inr (hv1.not_row hte hown').symm), fun g hg => ?_⟩, ?_, ⟨?_, ?_, fun j cs hj => hall j cs _ hj (Ne.symm htC) (Ne.symm heC)⟩, hall⟩
  · rcases hp with hp | hp
    · exact h.far g (hp ▸ hg)
    · rw [hp] at hg
      cases hg
      exact .inr hsz
  · refine (KeepsOthers.of_grownBy hgrow fun j o ej hj => ?_).trans (KeepsOthers.setCell _ _ _)
    obtain ⟨cur, hc, _⟩ := hrow j ej
    rw [hc] at hj
    cases hj
    rfl
  · refine ((Below.refl n₀ W).grown hgrow (by omega) fun j ej => ?_).setCell (p := ⟨B, 0, none⟩) hn v'
    obtain ⟨_, _, h2⟩ := hrow j ej
    exact h2
  · intro j h1 h2
    have e1 : W.heap[j]? = w1.heap[j]? := (hgrow.block j (by omega) (fun ej => by have := h.far j ej.symm; omega)).symm
    rw [e1]
    exact hset.block j (Nat.lt_of_lt_of_le (by omega) hgrow.size) (fun ej => by cases ej; omega)
theorem boxes3 (u : World) (x y z : Value) (W0 : World) (h : ((u.alloc (.cells #[x] 22)).alloc (.cells #[y] 3)).alloc (.cells #[z] 3) = W0) :
    W0.heap.size = u.heap.size + 3 ∧ Boxed W0 u.heap.size 22 x ∧ Boxed W0 (u.heap.size + 1) 3 y ∧ Boxed W0 (u.heap.size + 1 + 1) 3 z ∧ Below u.heap.size u W0 := by
  subst h
  have b1 := Boxed.new (u.alloc (.cells #[x] 22)) 3 y
  have b2 := Boxed.new ((u.alloc (.cells #[x] 22)).alloc (.cells #[y] 3)) 3 z
  rw [World.size_alloc] at b1
  rw [World.size_alloc, World.size_alloc] at b2
  exact ⟨by simp, ((Boxed.new u 22 x).alloc _).alloc _, b1.alloc _, b2, (((Below.refl _ u).alloc (Nat.le_refl _) _).alloc (by simp) _).alloc (by simp; omega) _⟩
theorem ownR_own {β : Type} {A : Nat} {w0 : World} (hn : n₀ ≤ w0.heap.size) (hA : n₀ ≤ A) (kk : β → Nat) (f : β → List Value) : OwnFrom A (fun (x : β) W => (∃ v, OwnR n₀ lo B t e s v (kk x) (f x) W) ∧ Below n₀ w0 W) := by
  refine OwnFrom.and (Own.from ?_ _) (ownFrom_below hn hA)
  have := holdsRow_own (β := β) n₀ B t e s kk f (fun _ v => ∀ g, v.ownBlock = some g → g < lo ∨ lo + 3 ≤ g)
  intro x A B row hs hg hr
  obtain ⟨v, ⟨h1, h2, h3⟩⟩ := hs
  obtain ⟨v', q1, q2, q3⟩ := this x A B row ⟨v, h1, h2, h3⟩ hg hr
  exact ⟨v', q1, q2, q3⟩
end
end Go.Proofs.Ytppdcjjkkckokaa
