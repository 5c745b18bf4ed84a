/-
  Laws for rows of pairs within their block: copy, clear, append with room, parts of a slice.
-/
import Derived.Test.YtppdcjjkkckokaaPaRow
import Derived.Laws.CopyOwn
import Derived.Lib.Overlaps
import Derived.Lib.AppendZerosOnto
namespace Go.Proofs.Ytppdcjjkkckokaa
open Go.RowKit

/-- a block of pairs -/
def Blk (w : World) (g : Nat) (cur : List Value) : Prop := w.heap[g]? = some (.cells cur.toArray 44 (0, 0))
/-- cells put over others -/
def spl (cur : List Value) (o : Nat) (cs : List Value) : List Value := cur.take o ++ cs ++ cur.drop (o + cs.length)
theorem spl_length {cur : List Value} {o : Nat} {cs : List Value} (h : o + cs.length ≤ cur.length) : (spl cur o cs).length = cur.length := by
  unfold spl
  simp
  omega
theorem spl_take {cur : List Value} {o : Nat} {cs : List Value} (h : o + cs.length ≤ cur.length) (k : Nat) (hk : k = o + cs.length) : (spl cur o cs).take k = cur.take o ++ cs := by
  unfold spl
  subst hk
  rw [List.take_left' (by simp; omega)]
theorem Blk.cell {w : World} {g : Nat} {cur : List Value} (h : Blk w g cur) (j : Nat) : w.cell? ⟨g, j, none⟩ = cur[j]? := by
  rw [cell_of_row w g j cur.toArray _ (0, 0) h]
  simp
theorem size_of_pr : ∀ u : World, (sizeOf 44).run Try.prog u = .ok 2 u := fun u => by kernel_rfl
theorem setRow_grown (w : World) (g : Nat) (cs : Array Value) : w.grownBy (w.setRow g cs) (some g) :=
  ⟨rfl, rfl, rfl, by simp [World.setRow], fun k _ hk => setRow_other w g k cs (fun e => hk (by rw [e]))⟩

theorem run_copy_pr {T T' : TypeId} (hT : Try.prog.underlying T = some (.slice 44)) (w : World) (ty : TypeId) (g o dLen dCap : Nat) (a : Addr) (sLen sCap : Nat) (cur cs : List Value) (k : Nat)
    (hg : Blk w g cur) (hk : Nat.min sLen dLen = k) (hn : cs.length = k * 2) (hsrc : ∀ j v, cs[j]? = some v → w.cell? (a.add j) = some v) (hfit : o + cs.length ≤ cur.length) (h1 : ∀ v ∈ cs, v.oneCell' = true) :
    (Builtin.copy_ #[T, T'] ty #[.slice (some ⟨g, o, none⟩) dLen dCap, .slice (some a) sLen sCap]).run Try.prog w = .ok (goInt k) (w.setRow g (spl cur o cs).toArray) := by
  have hl := run_loadCells_list (P := Try.prog) w a cs hsrc
  have hst := run_storeCells_at Try.prog g o _ cs 0 cur.toArray w hg (by simpa using hfit) h1
  have hz := size_of_pr w
  rw [hn] at hl
  simp [Builtin.copy_, run_underlying hT, Builtin.lenOf, Builtin.firstCells, hz, hk, hl, hst, spl]
theorem run_clear_pr {T : TypeId} (hT : Try.prog.underlying T = some (.slice 44)) (w : World) (ty : TypeId) (g o n c : Nat) (cur : List Value) (hg : Blk w g cur) (hfit : o + n * 2 ≤ cur.length) :
    ∃ u, (Builtin.clear_ #[T] ty #[.slice (some ⟨g, o, none⟩) n c]).run Try.prog w = .ok (.tuple #[]) u ∧ w.grownBy u (some g) ∧ ∃ cur' : List Value, Blk u g cur' ∧ cur'.length = cur.length ∧ cur'.take o = cur.take o := by
  cases n with
  | zero => exact ⟨w, by simp [Builtin.clear_, run_underlying hT], World.grownBy.refl _ _, cur, hg, rfl, rfl⟩
  | succ n =>
    obtain ⟨zs, hzs⟩ : ∃ zs : List Value, (Builtin.zeroCells (Value.agg #[.int .i64 0, .int .i64 0]).cells (n + 1)).toList = zs := ⟨_, rfl⟩
    have hzl : zs.length = (n + 1) * 2 := by rw [← hzs]; simp [Builtin.zeroCells, Value.cells]
    have hz1 : ∀ v ∈ zs, v.oneCell' = true := by
      intro v hv
      rw [← hzs] at hv
      simp [Builtin.zeroCells, Value.cells] at hv
      obtain ⟨k, hk, rfl⟩ := hv
      have : k % 2 = 0 ∨ k % 2 = 1 := by omega
      rcases this with h | h <;> simp [h] <;> rfl
    have hst := run_storeCells_at Try.prog g o _ zs 0 cur.toArray w hg (by simp; omega) hz1
    have hzv : (zeroValue 44).run Try.prog w = .ok (.agg #[.int .i64 0, .int .i64 0]) w := by
      obtain ⟨i0, hi, hz0, _, _⟩ := info_parts infoPr
      simp [zeroValue, typeInfo, hi, hz0]
    refine ⟨w.setRow g (spl cur o zs).toArray, ?_, setRow_grown _ _ _, _, setRow_heap w g _ _ _ _ hg, spl_length (by omega), ?_⟩
    · simp [Builtin.clear_, run_underlying hT, hzv, hzs, hst, spl]
    · unfold spl
      rw [List.append_assoc, List.take_left' (by simp; omega)]
theorem run_append_types {T T' : TypeId} (hT : Try.prog.underlying T = some (.slice 44)) (hT' : Try.prog.underlying T' = some (.slice 44)) (ty : TypeId) (ao bo : Option Addr) (n c m d : Nat) (w : World) : (Builtin.append_ #[T, T'] ty #[.slice ao n c, .slice bo m d]).run Try.prog w = (Builtin.append_ #[T, T] ty #[.slice ao n c, .slice bo m d]).run Try.prog w := by
  have h1 := run_underlying hT
  have h2 := run_underlying hT'
  unfold Builtin.append_
  simp [h1, h2]
theorem run_append_room {T T' : TypeId} (hT : Try.prog.underlying T = some (.slice 44)) (hT' : Try.prog.underlying T' = some (.slice 44)) (w : World) (ty : TypeId) (g n cap : Nat) (a : Addr) (m c : Nat) (cur cs : List Value)
    (hg : Blk w g cur) (hroom : n + m ≤ cap) (hn : cs.length = m * 2) (hsrc : ∀ j v, cs[j]? = some v → w.cell? (a.add j) = some v) (hfit : n * 2 + cs.length ≤ cur.length) (h1 : ∀ v ∈ cs, v.oneCell' = true) :
    (Builtin.append_ #[T, T'] ty #[.slice (some ⟨g, 0, none⟩) n cap, .slice (some a) m c]).run Try.prog w = .ok (.slice (some ⟨g, 0, none⟩) (n + m) cap) (w.setRow g (spl cur (n * 2) cs).toArray) := by
  have hl := run_loadCells_list (P := Try.prog) w a cs hsrc
  have hst := run_storeCells_at Try.prog g (n * 2) _ cs 0 cur.toArray w hg (by simpa using hfit) h1
  have hz := size_of_pr w
  rw [hn] at hl
  have h1 := run_underlying hT
  have h2 := run_underlying hT'
  simp [Builtin.append_, h1, h2, Builtin.lenOf, Builtin.firstCells, hz, hl, hroom, add_none, hst, spl]

theorem wpList_cp {ops : Array Oper} {rest : List Oper} {o : Oper} {a : Act} {Q : Exit → Act → World → Prop} (w : World) (hw : Region.wanted o (yielded ops a.tmps) = true) (d s : Operand) (T T' : TypeId)
    (ho : o.op = .call { callee := .builtin .copy, args := #[d, s], argTypes := #[T, T'] }) (v u : Value) (hd : a.eval d = v) (hs : a.eval s = u) (v' : Value) (w' : World)
    (hr : (Builtin.copy_ #[T, T'] o.type #[v, u]).run Try.prog w = .ok v' w') (h : wpList Try.prog ops Q rest (a.put o.dst v') w') : wpList Try.prog ops Q (o :: rest) a w := by
  refine wpList_step fun K hK => ?_
  rw [if_pos hw]
  unfold Oper.wp
  simp [execOp, ho, resolve, invoke, builtin, hd, hs, hr, Result.andThen]
  exact hK _ _ h
theorem step_cp {ops : Array Oper} {o : Oper} {a : Act} {K : Act → World → Prop} {Q : Exit → Act → World → Prop} {X : Prop} (w : World) (hgd : o.guard = none) (d s : Operand) (T T' : TypeId)
    (ho : o.op = .call { callee := .builtin .copy, args := #[d, s], argTypes := #[T, T'] }) (v u : Value) (hd : a.eval d = v) (hs : a.eval s = u) (v' : Value) (w' : World)
    (hr : (Builtin.copy_ #[T, T'] o.type #[v, u]).run Try.prog w = .ok v' w') (h : K (a.put o.dst v') w') : if Region.wanted o (yielded ops a.tmps) = true then Oper.wp Try.prog o a w K Q else X := by
  have hw : Region.wanted o (yielded ops a.tmps) = true := by simp [Region.wanted, hgd]
  rw [if_pos hw]
  unfold Oper.wp
  simp [execOp, ho, resolve, invoke, builtin, hd, hs, hr, Result.andThen]
  exact h
theorem wpList_ap {ops : Array Oper} {rest : List Oper} {o : Oper} {a : Act} {Q : Exit → Act → World → Prop} (w : World) (hw : Region.wanted o (yielded ops a.tmps) = true) (d s : Operand) (T T' : TypeId)
    (ho : o.op = .call { callee := .builtin .append, args := #[d, s], argTypes := #[T, T'] }) (v u : Value) (hd : a.eval d = v) (hs : a.eval s = u) (v' : Value) (w' : World)
    (hr : (Builtin.append_ #[T, T'] o.type #[v, u]).run Try.prog w = .ok v' w') (h : wpList Try.prog ops Q rest (a.put o.dst v') w') : wpList Try.prog ops Q (o :: rest) a w := by
  refine wpList_step fun K hK => ?_
  rw [if_pos hw]
  unfold Oper.wp
  simp [execOp, ho, resolve, invoke, builtin, hd, hs, hr, Result.andThen]
  exact hK _ _ h
theorem step_ap {ops : Array Oper} {o : Oper} {a : Act} {K : Act → World → Prop} {Q : Exit → Act → World → Prop} {X : Prop} (w : World) (hgd : o.guard = none) (d s : Operand) (T T' : TypeId)
    (ho : o.op = .call { callee := .builtin .append, args := #[d, s], argTypes := #[T, T'] }) (v u : Value) (hd : a.eval d = v) (hs : a.eval s = u) (v' : Value) (w' : World)
    (hr : (Builtin.append_ #[T, T'] o.type #[v, u]).run Try.prog w = .ok v' w') (h : K (a.put o.dst v') w') : if Region.wanted o (yielded ops a.tmps) = true then Oper.wp Try.prog o a w K Q else X := by
  have hw : Region.wanted o (yielded ops a.tmps) = true := by simp [Region.wanted, hgd]
  rw [if_pos hw]
  unfold Oper.wp
  simp [execOp, ho, resolve, invoke, builtin, hd, hs, hr, Result.andThen]
  exact h
theorem wpList_cl {ops : Array Oper} {rest : List Oper} {o : Oper} {a : Act} {Q : Exit → Act → World → Prop} (w : World) (hw : Region.wanted o (yielded ops a.tmps) = true) (d : Operand) (T : TypeId)
    (ho : o.op = .call { callee := .builtin .clear, args := #[d], argTypes := #[T] }) (v : Value) (hd : a.eval d = v) (v' : Value) (w' : World)
    (hr : (Builtin.clear_ #[T] o.type #[v]).run Try.prog w = .ok v' w') (h : wpList Try.prog ops Q rest (a.put o.dst v') w') : wpList Try.prog ops Q (o :: rest) a w := by
  refine wpList_step fun K hK => ?_
  rw [if_pos hw]
  unfold Oper.wp
  simp [execOp, ho, resolve, invoke, builtin, hd, hr, Result.andThen]
  exact hK _ _ h

/-- s[l:] -/
theorem sl_from {T : TypeId} (hT : Try.prog.underlying T = some (.slice 44)) (he : Try.prog.elem T = 44) (g n cap l : Nat) (hl : l ≤ n) (hc : l < cap) (u : World) : (Instr.slice T (.slice (some ⟨g, 0, none⟩) n cap) (some (.int .i64 (l : Int))) none none).run Try.prog u = .ok (.slice (some ⟨g, l * 2, none⟩) (n - l) (cap - l)) u := by
  rw [run_slice_l (P := Try.prog) u T (some ⟨g, 0, none⟩) n cap (by rw [hT, ← he]) .i64 l (by omega) (by omega), he, size_of_pr]
  simp only [Result.andThen, sliced, Option.map_some, add_none]
  rw [if_neg (by omega)]
  simp
/-- s[:h] -/
theorem sl_to {T : TypeId} (hT : Try.prog.underlying T = some (.slice 44)) (he : Try.prog.elem T = 44) (g n cap h : Nat) (hc : h ≤ cap) (u : World) : (Instr.slice T (.slice (some ⟨g, 0, none⟩) n cap) none (some (.int .i64 (h : Int))) none).run Try.prog u = .ok (.slice (some ⟨g, 0, none⟩) h cap) u := by
  rw [run_slice_h (P := Try.prog) u T (some ⟨g, 0, none⟩) n cap (by rw [hT, ← he]) .i64 h (by omega) (by omega), he, size_of_pr]
  simp only [Result.andThen, sliced, Option.map_some, add_none]
  simp
end Go.Proofs.Ytppdcjjkkckokaa
