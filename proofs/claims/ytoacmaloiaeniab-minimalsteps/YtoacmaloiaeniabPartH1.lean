/-
  Texts that belong together, joined: MiSt.
-/
import Derived.Test.YtoacmaloiaeniabPartA3
import Derived.Deep.CutRange

/- A row that a region lays in whatever order beside a row of one number: steps of that region. -/
namespace Go.Proofs.Ytoacmaloiaeniab
open Go.RowKit

/-- x[:k] of a slice of numbers -/
theorem run_to (X : List Int) (ao : Option Addr) (cap k : Nat) (w : World) (hk : k ≤ X.length) (hX : HI w (.slice ao X.length cap) X) :
    ∃ vo vc, (∀ u : World, (Instr.slice 22 (.slice ao X.length cap) none (some (.int .i64 (k : Int))) none).run Try.prog u = .ok (.slice vo k vc) u) ∧ (∀ u : World, HI u (.slice ao X.length cap) X → Holds u (.slice vo k vc) k (icells (X.take k))) := by
  have hnc : X.length ≤ cap := by
    rcases hX with ⟨h, _, h3⟩ | ⟨ad, c, h, h3, _⟩
    · simp at h; simp [h]
    · cases h; exact h3
  refine ⟨ao, cap, fun u => ?_, fun u hu => ?_⟩
  · rw [run_slice_h (P := Try.prog) u 22 ao X.length cap (by kernel_rfl) .i64 k (by omega) (by omega)]
    have : (sizeOf (Try.prog.elem 22)).run Try.prog u = .ok 1 u := by kernel_rfl
    rw [this]
    cases ao with
    | none => simp [Result.andThen, sliced]
    | some ad =>
      rcases hX with ⟨h, _, _⟩ | ⟨ad', c, h, h3, hc⟩
      · cases h
      · cases h
        by_cases h0 : X.length = 0
        · have : k = 0 := by omega
          subst this
          simp [Result.andThen, sliced, Addr.add]
        · obtain ⟨b, off, rfl⟩ := addr_of (hc 0 _ (List.getElem?_eq_getElem (by rw [icells_length]; omega)))
          simp only [Result.andThen, sliced, Option.map_some, add_none]
          simp
  · rcases hu with ⟨h, h3, h4⟩ | ⟨ad, c, h, h3, hc⟩
    · have e : X = [] := by simpa [icells] using h4
      subst e
      simp at h
      obtain ⟨rfl, rfl⟩ := h
      simp at hk
      subst hk
      exact .inl ⟨rfl, rfl, by simp [icells]⟩
    · cases h
      refine .inr ⟨ad, cap, rfl, by omega, fun j u hj => hc j u ?_⟩
      simp only [icells, List.getElem?_map, List.getElem?_take] at hj ⊢
      split at hj
      · exact hj
      · simp at hj

theorem owns_heap {u u' : World} (h : u.heap = u'.heap) {base n : Nat} {e : TypeId} {v : Value} {xs : List Value} (ho : u.ownsRow base e 1 v n xs) : u'.ownsRow base e 1 v n xs := by
  refine ⟨ho.1, ?_⟩
  rcases ho.2 with h1 | ⟨g, cap, cur, q1, q2, q3, q4⟩
  · exact .inl h1
  · exact .inr ⟨g, cap, cur, q1, q2, by rw [← h]; exact q3, q4⟩
theorem owns_lt' {w : World} {base n : Nat} {e : TypeId} {vx : Value} {xs : List Value} (ho : w.ownsRow base e 1 vx n xs) {g : Nat} (hg : vx.ownBlock = some g) : g < w.heap.size := by
  rcases ho.2 with ⟨h1, _⟩ | ⟨g', cap, cur, q1, q2, q3, _⟩
  · rw [h1] at hg; cases hg
  · rw [q1] at hg; cases hg; exact (Array.getElem?_eq_some_iff.1 q3).1
/-- a row that holds these numbers -/
def One (W : World) (xs : List Int) (v : Value) (H : Array Obj) : Prop := ∃ u : World, u.heap = H ∧ u.ownsRow W.heap.size 3 1 v xs.length (icells xs)
theorem One.own {W : World} {xs : List Int} {v : Value} {u : World} (h : One W xs v u.heap) : u.ownsRow W.heap.size 3 1 v xs.length (icells xs) := by
  obtain ⟨u', hu, ho⟩ := h
  exact owns_heap hu ho
theorem One.alloc {W : World} {xs : List Int} {v : Value} {u : World} (h : One W xs v u.heap) (ob : Obj) : One W xs v (u.alloc ob).heap := ⟨_, rfl, h.own.alloc ob⟩
/-- .. and beside it a row of one number -/
structure Sg (W : World) (xs : List Int) (v : Value) (c : Int) (vB : Value) (H : Array Obj) : Prop where
  one : One W xs v H
  sgl : ∃ g, vB = .slice (some ⟨g, 0, none⟩) 1 1 ∧ H[g]? = some (.cells #[.int .i64 c] 3 (0, 0)) ∧ v.ownBlock ≠ some g
theorem one_new {W u : World} (h : Low W u) : One W [] (.slice (some ⟨u.heap.size, 0, none⟩) 0 0) (u.alloc (.cells #[] 3)).heap := ⟨_, rfl, nil_row_new u _ _ rfl (Below.size h)⟩
theorem sg_new {W u : World} {xs : List Int} {v : Value} {c : Int} (h1 : One W xs v u.heap) : Sg W xs v c (.slice (some ⟨u.heap.size, 0, none⟩) 1 1) (u.alloc (.cells #[.int .i64 c] 3)).heap :=
  ⟨h1.alloc _, _, rfl, _root_.Go.heap_alloc_new u _, fun e => Nat.lt_irrefl _ (owns_lt' h1.own e)⟩
theorem sg_ahead {W u : World} {c : Int} (h : Low W u) : Sg W [] (.slice (some ⟨u.heap.size + 1, 0, none⟩) 0 0) c (.slice (some ⟨u.heap.size, 0, none⟩) 1 1) ((u.alloc (.cells #[.int .i64 c] 3)).alloc (.cells #[] 3)).heap := by
  have h1 := one_new (low_alloc (.cells #[.int .i64 c] 3) h)
  rw [World.size_alloc] at h1
  exact ⟨h1, _, rfl, (Below.heap_alloc _ _ _ (by simp)).trans (_root_.Go.heap_alloc_new u _), by simp [Value.ownBlock]⟩
theorem sg_behind {W u : World} {c : Int} (h : Low W u) : Sg W [] (.slice (some ⟨u.heap.size, 0, none⟩) 0 0) c (.slice (some ⟨u.heap.size + 1, 0, none⟩) 1 1) ((u.alloc (.cells #[] 3)).alloc (.cells #[.int .i64 c] 3)).heap := by
  have h1 := sg_new (c := c) (one_new h)
  rw [World.size_alloc] at h1
  exact h1
theorem Sg.holds {W u : World} {xs : List Int} {v vB : Value} {c : Int} (h : Sg W xs v c vB u.heap) : Holds u vB 1 (icells [c]) := by
  obtain ⟨g, rfl, hg, _⟩ := h.sgl
  refine .inr ⟨_, 1, rfl, Nat.le_refl _, fun j x hj => ?_⟩
  rw [add_none, Lib.cell_of_heap hg]
  cases j with
  | zero => simpa [icells] using hj
  | succ j => simp [icells] at hj

theorem step_at {ops : Array Oper} {o : Oper} {a : Act} {K : Act → World → Prop} {Q : Exit → Act → World → Prop} {X : Prop} (W w : World) (hgd : o.guard = none) (s x : Operand)
    (ho : o.op = .call { callee := .builtin .append, args := #[s, x], argTypes := #[22, 22] }) (v : Value) (xs : List Int) (hs : a.eval s = v) (hown : One W xs v w.heap) (vx : Value) (m : Nat) (ys : List Int) (hx : a.eval x = vx) (hh : Holds w vx m (icells ys)) (hl : ys.length = m) (hk : xs.length + m ≤ 4398046511104) (hL : Low W w)
    (h : ∀ v' w', One W (xs ++ ys) v' w'.heap → w.grownBy w' v.ownBlock → (v'.ownBlock = v.ownBlock ∨ v'.ownBlock = some w.heap.size) → Low W w' → K (a.put o.dst v') w') :
    if Region.wanted o (yielded ops a.tmps) = true then Oper.wp Try.prog o a w K Q else X := by
  have hw : Region.wanted o (yielded ops a.tmps) = true := by simp [Region.wanted, hgd]
  rw [if_pos hw]
  obtain ⟨v', w', hr, h2, h3, h4⟩ := run_append_h w 22 3 o.type (.int .i64 0) 1 8 Try.underlying22 infoInt rfl (by decide) (by decide) W.heap.size v xs.length (icells xs) hown.own vx m (icells ys) hh (by rw [icells_length]; omega) (icells_one _) hk (Below.size hL)
  unfold Oper.wp
  simp [execOp, ho, resolve, invoke, builtin, hs, hx, hr, Result.andThen]
  rw [← icells_append] at h2
  exact h v' w' ⟨w', rfl, by rw [List.length_append, hl]; exact h2⟩ h3 h4 (Below.grown hL h3 (Below.size hL) (fun j hj => owns_ge hown.own hj))
/-- the row grows, alone -/
theorem step_one {ops : Array Oper} {o : Oper} {a : Act} {K : Act → World → Prop} {Q : Exit → Act → World → Prop} {X : Prop} (W w : World) (hgd : o.guard = none) (s x : Operand)
    (ho : o.op = .call { callee := .builtin .append, args := #[s, x], argTypes := #[22, 22] }) (v vx : Value) (xs : List Int) (m : Nat) (ys zs : List Int) (hz : xs ++ ys = zs) (hs : a.eval s = v) (hx : a.eval x = vx) (hh : Holds W vx m (icells ys)) (hl : ys.length = m) (hk : xs.length + m ≤ 4398046511104) (hown : One W xs v w.heap) (hL : Low W w)
    (h : ∀ v' w', One W zs v' w'.heap → Low W w' → K (a.put o.dst v') w') :
    if Region.wanted o (yielded ops a.tmps) = true then Oper.wp Try.prog o a w K Q else X :=
  step_at W w hgd s x ho v xs hs hown vx m ys hx (Holds.keep hh (Below.block hL)) hl hk hL (fun v' w' h1 _ _ h2 => h v' w' (hz ▸ h1) h2)
/-- .. beside the row of one number -/
theorem step_two {ops : Array Oper} {o : Oper} {a : Act} {K : Act → World → Prop} {Q : Exit → Act → World → Prop} {X : Prop} (W w : World) (hgd : o.guard = none) (s x : Operand)
    (ho : o.op = .call { callee := .builtin .append, args := #[s, x], argTypes := #[22, 22] }) (v vx : Value) (xs : List Int) (m : Nat) (ys zs : List Int) (hz : xs ++ ys = zs) (c : Int) (vB : Value) (hs : a.eval s = v) (hx : a.eval x = vx) (hh : Holds W vx m (icells ys)) (hl : ys.length = m) (hk : xs.length + m ≤ 4398046511104) (hown : Sg W xs v c vB w.heap) (hL : Low W w)
    (h : ∀ v' w', Sg W zs v' c vB w'.heap → Low W w' → K (a.put o.dst v') w') :
    if Region.wanted o (yielded ops a.tmps) = true then Oper.wp Try.prog o a w K Q else X := by
  refine step_at W w hgd s x ho v xs hs hown.one vx m ys hx (Holds.keep hh (Below.block hL)) hl hk hL (fun v' w' h1 h2 h3 h4 => h v' w' ⟨hz ▸ h1, ?_⟩ h4)
  obtain ⟨g, rfl, hg, hne⟩ := hown.sgl
  have hlt := (Array.getElem?_eq_some_iff.1 hg).1
  refine ⟨g, rfl, (h2.block g hlt (fun e => hne e.symm)).trans hg, fun e => ?_⟩
  rcases h3 with h3 | h3
  · exact hne (h3 ▸ e)
  · rw [h3] at e
    cases e
    exact Nat.lt_irrefl _ hlt
/-- the number goes behind the row -/
theorem step_num {ops : Array Oper} {o : Oper} {a : Act} {K : Act → World → Prop} {Q : Exit → Act → World → Prop} {X : Prop} (W w : World) (hgd : o.guard = none) (s x : Operand)
    (ho : o.op = .call { callee := .builtin .append, args := #[s, x], argTypes := #[22, 22] }) (v vx : Value) (xs zs : List Int) (c : Int) (hz : xs ++ [c] = zs) (hs : a.eval s = v) (hx : a.eval x = vx) (hk : xs.length + 1 ≤ 4398046511104) (hown : Sg W xs v c vx w.heap) (hL : Low W w)
    (h : ∀ v' w', One W zs v' w'.heap → Low W w' → K (a.put o.dst v') w') :
    if Region.wanted o (yielded ops a.tmps) = true then Oper.wp Try.prog o a w K Q else X :=
  step_at W w hgd s x ho v xs hs hown.one vx 1 [c] hx hown.holds rfl hk hL (fun v' w' h1 _ _ h2 => h v' w' (hz ▸ h1) h2)
theorem LengthOne (X y : List Int) (v vy : Value) (W u : World) (hy : HI W vy y) (hX : X.length ≤ 4096) (hyl : y.length ≤ 4096) (r : Nat) (hr : Hid (lc X y = r)) (h : One W X v u.heap) (hL : Low W u) :
    Calls Try.prog 9 #[v, vy] u fun e w' => e = .returned (.tuple #[.int .i64 (r : Int), .int .i64 0]) ∧ Low W w' := by
  refine (Length_f X y v vy u (holds_of h.own) (HI.keep hy hL (Nat.le_refl _)) hX hyl r hr).mono ?_
  rintro e w' ⟨rfl, h2⟩
  exact ⟨rfl, Below.trans hL (h2.mono (Below.size hL))⟩
end Go.Proofs.Ytoacmaloiaeniab
