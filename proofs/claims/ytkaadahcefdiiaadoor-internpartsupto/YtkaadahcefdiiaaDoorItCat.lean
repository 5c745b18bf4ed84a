/-
  Append of a slice, nil or not, onto a row that the call owns: with the place of the new row told; where a guard wants it; as a step of a region that draws its order.
-/
import Derived.Test.YtkaadahcefdiiaaDoorItWorks
import Derived.Maps.AppendAt
namespace Go.Proofs.YtkaadahcefdiiaaDoor
open Go.RowKit

theorem run_append_holds (w : World) (T E ty : TypeId) (z : Value) (bytes : Nat)
    (hT : Tryd.prog.underlying T = some (.slice E)) (hinfo : (Tryd.prog.info? E).map (fun i => (i.zero, i.size, i.bytes)) = some (some z, 1, bytes)) (hz1 : z.cells.size = 1) (hby : bytes ≤ 16)
    (base : Nat) (v : Value) (n : Nat) (xs : List Value) (hown : w.ownsRow base E 1 v n xs)
    (vx : Value) (ws : List Value) (hh : Holds w vx ws) (h1 : ∀ u ∈ ws, u.oneCell' = true) (hl : n + ws.length ≤ 1099511627776) (hbase : base ≤ w.heap.size) :
    ∃ v' w', (Builtin.append_ #[T, T] ty #[v, vx]).run Tryd.prog w = .ok v' w' ∧ w'.ownsRow base E 1 v' (n + ws.length) (xs ++ ws) ∧ w.grownBy w' v.ownBlock ∧ (v'.ownBlock = v.ownBlock ∨ v'.ownBlock = some w.heap.size) := by
  obtain ⟨i0, hi, hz0, hzs, hz2⟩ := info_parts hinfo
  rcases hh with ⟨rfl, rfl⟩ | ⟨ad, c, rfl, hc⟩
  · exact ⟨v, w, run_append_owned_none (P := Tryd.prog) (w := w) base T ty E i0 1 hT hi v n xs hown, by simpa using hown, World.grownBy.refl _ _, .inl rfl⟩
  · obtain ⟨v', w', hr, h2, h3, _, h5⟩ := run_append_own_at (P := Tryd.prog) w base T ty E i0 z 1 bytes hT hi hz0 hzs hz2 hz1 (by decide) v n xs hown ad ws.length c ws (by omega) hc h1 (by unfold maxLen; omega) (by
      have : (n + ws.length) * bytes ≤ (n + ws.length) * 16 := Nat.mul_le_mul_left _ hby
      omega) hbase
    exact ⟨v', w', hr, h2, h3, h5⟩

theorem wpList_append_want {ops : Array Oper} {rest : List Oper} {o : Oper} {a : Act} {Q : Exit → Act → World → Prop} (w : World) (hw : Region.wanted o (yielded ops a.tmps) = true) (s x : Operand) (T E : TypeId) (z : Value) (bytes : Nat)
    (hT : Tryd.prog.underlying T = some (.slice E)) (hinfo : (Tryd.prog.info? E).map (fun i => (i.zero, i.size, i.bytes)) = some (some z, 1, bytes)) (hz1 : z.cells.size = 1) (hby : bytes ≤ 16)
    (ho : o.op = .call { callee := .builtin .append, args := #[s, x], argTypes := #[T, T] })
    (base : Nat) (v : Value) (n : Nat) (xs : List Value) (hs : a.eval s = v) (hown : w.ownsRow base E 1 v n xs)
    (vx : Value) (ws : List Value) (hx : a.eval x = vx) (hh : Holds w vx ws) (h1 : ∀ u ∈ ws, u.oneCell' = true) (hl : n + ws.length ≤ 1099511627776) (hbase : base ≤ w.heap.size)
    (h : ∀ v' w', w'.ownsRow base E 1 v' (n + ws.length) (xs ++ ws) → w.grownBy w' v.ownBlock → wpList Tryd.prog ops Q rest (a.put o.dst v') w') : wpList Tryd.prog ops Q (o :: rest) a w := by
  refine wpList_step fun K hK => ?_
  rw [if_pos hw]
  obtain ⟨v', w', hr, h2, h3, _⟩ := run_append_holds w T E o.type z bytes hT hinfo hz1 hby base v n xs hown vx ws hh h1 hl hbase
  unfold Oper.wp
  simp [execOp, ho, resolve, invoke, builtin, hs, hx, hr, Result.andThen]
  exact hK _ _ (h v' w' h2 h3)

theorem step_append_holds {ops : Array Oper} {o : Oper} {a : Act} {K : Act → World → Prop} {Q : Exit → Act → World → Prop} {X : Prop} (w : World) (hgd : o.guard = none) (s x : Operand) (T E : TypeId) (z : Value) (bytes : Nat)
    (hT : Tryd.prog.underlying T = some (.slice E)) (hinfo : (Tryd.prog.info? E).map (fun i => (i.zero, i.size, i.bytes)) = some (some z, 1, bytes)) (hz1 : z.cells.size = 1) (hby : bytes ≤ 16)
    (ho : o.op = .call { callee := .builtin .append, args := #[s, x], argTypes := #[T, T] })
    (base : Nat) (v : Value) (n : Nat) (xs : List Value) (hs : a.eval s = v) (hown : w.ownsRow base E 1 v n xs)
    (vx : Value) (ws : List Value) (hx : a.eval x = vx) (hh : Holds w vx ws) (h1 : ∀ u ∈ ws, u.oneCell' = true) (hl : n + ws.length ≤ 1099511627776) (hbase : base ≤ w.heap.size)
    (h : ∀ v' w', w'.ownsRow base E 1 v' (n + ws.length) (xs ++ ws) → w.grownBy w' v.ownBlock → (v'.ownBlock = v.ownBlock ∨ v'.ownBlock = some w.heap.size) → K (a.put o.dst v') w') :
    if Region.wanted o (yielded ops a.tmps) = true then Oper.wp Tryd.prog o a w K Q else X := by
  have hw : Region.wanted o (yielded ops a.tmps) = true := by simp [Region.wanted, hgd]
  rw [if_pos hw]
  obtain ⟨v', w', hr, h2, h3, h4⟩ := run_append_holds w T E o.type z bytes hT hinfo hz1 hby base v n xs hown vx ws hh h1 hl hbase
  unfold Oper.wp
  simp [execOp, ho, resolve, invoke, builtin, hs, hx, hr, Result.andThen]
  exact h v' w' h2 h3 h4
end Go.Proofs.YtkaadahcefdiiaaDoor
