/-
  Append of a slice of texts, nil or not, onto a row that the call owns: as a law of the walk, and as steps of a region that draws its order.
-/
import Derived.Test.YtfjcichcmdnheabLnWorks
import Derived.Laws.AppendOwnNone
import Derived.BigRegion
import Derived.Deep.RegionLaw
import Derived.Deep.CutRange
namespace Go.Proofs.Ytfjcichcmdnheab
open Ln Go.RowKit

theorem ba_cat (a b : List UInt8) : ((⟨a.toArray⟩ : ByteArray) ++ (⟨b.toArray⟩ : ByteArray)) = ⟨(a ++ b).toArray⟩ := by
  apply ByteArray.ext
  simp
theorem scells_one (ws : List (List UInt8)) : ∀ u ∈ scells ws, u.oneCell' = true := by
  intro u hu
  simp only [scells, List.mem_map] at hu
  obtain ⟨a, _, rfl⟩ := hu
  rfl
theorem scells_append (a b : List (List UInt8)) : scells (a ++ b) = scells a ++ scells b := by simp [scells]

/-- what a slice of texts holds, cell by cell -/
def Holds (w : World) (v : Value) (ws : List (List UInt8)) : Prop :=
  (v = .slice none 0 0 ∧ ws = []) ∨ ∃ ad c, v = .slice (some ad) ws.length c ∧ ∀ j u, (scells ws)[j]? = some u → w.cell? (ad.add j) = some u

theorem holds_of {w : World} {B : Nat} {v : Value} {ws : List (List UInt8)} (h : w.ownsRow B 9 1 v ws.length (scells ws)) : Holds w v ws := by
  rcases h.2 with ⟨rfl, h0⟩ | ⟨g, cap, cur, rfl, _⟩
  · exact .inl ⟨rfl, List.eq_nil_of_length_eq_zero h0⟩
  · exact .inr ⟨⟨g, 0, none⟩, cap, rfl, h.cells (g := g) rfl⟩

theorem Holds.keep {w w' : World} {v : Value} {ws : List (List UInt8)} (h : Holds w v ws) (hk : ∀ k, k < w.heap.size → w'.heap[k]? = w.heap[k]?) : Holds w' v ws := by
  rcases h with h | ⟨ad, c, hv, hc⟩
  · exact .inl h
  · refine .inr ⟨ad, c, hv, fun j u hj => ?_⟩
    have h1 := hc j u hj
    have hlt := World.block_lt_of_cell? w _ h1
    rw [World.cell?_of_block (w := w) (hk _ hlt)]
    exact h1

theorem wpList_append_holds {ops : Array Oper} {rest : List Oper} {o : Oper} {a : Act} {Q : Exit → Act → World → Prop} (w : World) (hgd : o.guard = none) (s x : Operand)
    (ho : o.op = .call { callee := .builtin .append, args := #[s, x], argTypes := #[23, 23] })
    (base : Nat) (v : Value) (xs : List (List UInt8)) (hs : a.eval s = v) (hown : w.ownsRow base 9 1 v xs.length (scells xs))
    (vx : Value) (ws : List (List UInt8)) (hx : a.eval x = vx) (hh : Holds w vx ws) (hl : xs.length + ws.length ≤ 1099511627776) (hbase : base ≤ w.heap.size)
    (h : ∀ v' w', w'.ownsRow base 9 1 v' (xs ++ ws).length (scells (xs ++ ws)) → w.grownBy w' v.ownBlock → wpList Try.prog ops Q rest (a.put o.dst v') w') : wpList Try.prog ops Q (o :: rest) a w := by
  obtain ⟨i0, hi, hz0, hz1, hz2⟩ := info_parts infoStr
  rcases hh with ⟨rfl, rfl⟩ | ⟨ad, c, rfl, hc⟩
  · refine wpList_append_own_none hgd s x 23 ho base 9 i0 1 Try.underlying23 hi v xs.length (scells xs) hs hown hx ?_
    exact h v w (by simpa using hown) (World.grownBy.refl _ _)
  · refine wpList_append_own w hgd s x 23 ho base 9 i0 (.string ⟨#[]⟩) 1 16 Try.underlying23 hi hz0 hz1 hz2 rfl (by decide) v xs.length (scells xs) hs hown ad ws.length c (scells ws) hx (by rw [scells_length]; omega) hc (scells_one ws) (by unfold maxLen; omega) (by omega) hbase ?_
    intro v' w' h1 h2 _
    exact h v' w' (by rw [scells_append, List.length_append]; exact h1) h2

theorem ownsRow_some {w : World} {B : Nat} {v : Value} {ws : List (List UInt8)} (h : w.ownsRow B 9 1 v ws.length (scells ws)) (h0 : 0 < ws.length) : ∃ g cap, v = .slice (some ⟨g, 0, none⟩) ws.length cap ∧ ws.length ≤ cap ∧ g < w.heap.size ∧ ∀ j (h : j < ws.length), w.cell? ⟨g, j, none⟩ = some (.string ⟨ws[j].toArray⟩) := by
  have h' := h
  rcases h.2 with ⟨_, h1⟩ | ⟨g, cap, cur, q1, q2, q3, q4, _⟩
  · omega
  · subst q1
    refine ⟨g, cap, rfl, q4, (Array.getElem?_eq_some_iff.1 q3).1, fun j hj => ?_⟩
    have := h'.cells (g := g) rfl j (.string ⟨ws[j].toArray⟩) (by simp [scells, hj])
    have hadd : (⟨g, 0, none⟩ : Addr).add j = ⟨g, j, none⟩ := by unfold Addr.add; split <;> simp_all
    rw [hadd] at this
    exact this

theorem split_piece {l : List UInt8} {p q : List (List UInt8)} {x : List UInt8} (h : splitL l = p ++ x :: q) : x.length ≤ l.length := by
  have hj := split_join l
  rw [h] at hj
  rw [← hj]
  simp
  omega
theorem alloc_at (w : World) (o : Obj) : (w.alloc o).drew.heap[w.heap.size]? = some o := _root_.Go.heap_alloc_new w o
theorem alloc_old (w : World) (o o2 : Obj) : ((w.alloc o).alloc o2).drew.heap[w.heap.size]? = some o :=
  (Below.heap_alloc (w.alloc o) o2 w.heap.size (by simp)).trans (_root_.Go.heap_alloc_new w o)
theorem alloc_new (w : World) (o o2 : Obj) : ((w.alloc o).alloc o2).drew.heap[w.heap.size + 1]? = some o2 := by
  have h := _root_.Go.heap_alloc_new (w.alloc o) o2
  have e : (w.alloc o).heap.size = w.heap.size + 1 := by simp
  rw [e] at h
  exact h
theorem nil_row {W0 W : World} {g : Nat} (hg : W.heap[g]? = some (.cells #[] 9 (0, 0))) (hB : W0.heap.size ≤ g) : W.ownsRow W0.heap.size 9 1 (.slice (some ⟨g, 0, none⟩) 0 0) ([] : List (List UInt8)).length (scells []) :=
  ⟨by simp [scells], .inr ⟨g, 0, #[], rfl, hB, hg, Nat.le_refl _, by decide, rfl, rfl⟩⟩

/-- the first append of the region: onto a new empty row -/
theorem step_cat1 {ops : Array Oper} {o : Oper} {a : Act} {W : World} {K : Act → World → Prop} {Q : Exit → Act → World → Prop} {E : Prop} (W0 : World)
    (hgd : o.guard = none) (s x : Operand) (ho : o.op = .call { callee := .builtin .append, args := #[s, x], argTypes := #[23, 23] })
    (g : Nat) (hs : a.eval s = .slice (some ⟨g, 0, none⟩) 0 0) (hg : W.heap[g]? = some (.cells #[] 9 (0, 0))) (hB : W0.heap.size ≤ g) (hW : Below W0.heap.size W0 W)
    (vx : Value) (ws : List (List UInt8)) (hx : a.eval x = vx) (hh : Holds W0 vx ws) (hl : ws.length ≤ 1099511627776)
    (h : ∀ v' W', W'.ownsRow W0.heap.size 9 1 v' ws.length (scells ws) → W.grownBy W' (some g) → Below W0.heap.size W0 W' → K (a.put o.dst v') W') :
    if Region.wanted o (yielded ops a.tmps) = true then Oper.wp Try.prog o a W K Q else E := by
  obtain ⟨i0, hi, hz0, hz1, hz2⟩ := info_parts infoStr
  have hw : Region.wanted o (yielded ops a.tmps) = true := by simp [Region.wanted, hgd]
  rw [if_pos hw]
  have hown := nil_row hg hB
  have hbz := hW.size
  rcases hh with ⟨rfl, rfl⟩ | ⟨ad, c, rfl, hc⟩
  · have hr := run_append_owned_none (P := Try.prog) (w := W) W0.heap.size 23 o.type 9 i0 1 Try.underlying23 hi _ _ _ hown
    unfold Oper.wp
    simp [execOp, ho, resolve, invoke, builtin, hs, hx, hr, Result.andThen]
    exact h _ _ hown (World.grownBy.refl _ _) hW
  · have hc' : ∀ j u, (scells ws)[j]? = some u → W.cell? (ad.add j) = some u := by
      intro j u hj
      have h1 := hc j u hj
      have hlt := World.block_lt_of_cell? W0 _ h1
      rw [World.cell?_of_block (w := W0) (hW.block _ hlt)]
      exact h1
    obtain ⟨v', W', hr, h2, h3, _⟩ := run_append_own (P := Try.prog) W W0.heap.size 23 o.type 9 i0 (.string ⟨#[]⟩) 1 16 Try.underlying23 hi hz0 hz1 hz2 rfl (by decide) _ _ _ hown ad ws.length c (scells ws) (by rw [scells_length]; omega) hc' (scells_one ws) (by unfold maxLen; simp; omega) (by simp; omega) hbz
    have h4 := hW.grown h3 hbz (fun j hj => (hown.lt j hj).1)
    unfold Oper.wp
    simp [execOp, ho, resolve, invoke, builtin, hs, hx, hr, Result.andThen]
    exact h v' W' (by simpa [scells] using h2) h3 h4

/-- the second append of the region: one text more -/
theorem step_cat2 {ops : Array Oper} {o : Oper} {a : Act} {W : World} {K : Act → World → Prop} {Q : Exit → Act → World → Prop} {E : Prop} (W0 : World)
    (hgd : o.guard = none) (s x : Operand) (ho : o.op = .call { callee := .builtin .append, args := #[s, x], argTypes := #[23, 23] })
    (v : Value) (ws : List (List UInt8)) (hs : a.eval s = v) (hown : W.ownsRow W0.heap.size 9 1 v ws.length (scells ws)) (hW : Below W0.heap.size W0 W)
    (h1 : Nat) (y : List UInt8) (hx : a.eval x = .slice (some ⟨h1, 0, none⟩) 1 1) (hh : W.heap[h1]? = some (.cells #[.string ⟨y.toArray⟩] 9 (0, 0))) (hl : ws.length ≤ 1099511627776)
    (h : ∀ v' W', W'.ownsRow W0.heap.size 9 1 v' (ws ++ [y]).length (scells (ws ++ [y])) → Below W0.heap.size W0 W' → K (a.put o.dst v') W') :
    if Region.wanted o (yielded ops a.tmps) = true then Oper.wp Try.prog o a W K Q else E := by
  obtain ⟨i0, hi, hz0, hz1, hz2⟩ := info_parts infoStr
  have hw : Region.wanted o (yielded ops a.tmps) = true := by simp [Region.wanted, hgd]
  rw [if_pos hw]
  have hbz := hW.size
  have hc : ∀ j u, [Value.string ⟨y.toArray⟩][j]? = some u → W.cell? ((⟨h1, 0, none⟩ : Addr).add j) = some u := by
    intro j u hj
    have hadd : (⟨h1, 0, none⟩ : Addr).add j = ⟨h1, j, none⟩ := by unfold Addr.add; split <;> simp_all
    rw [hadd, Lib.cell_of_heap hh]
    simpa using hj
  obtain ⟨v', W', hr, h2, h3, _⟩ := run_append_own (P := Try.prog) W W0.heap.size 23 o.type 9 i0 (.string ⟨#[]⟩) 1 16 Try.underlying23 hi hz0 hz1 hz2 rfl (by decide) _ _ _ hown ⟨h1, 0, none⟩ 1 1 [.string ⟨y.toArray⟩] rfl hc (one_str _) (by unfold maxLen; omega) (by omega) hbz
  have h4 := hW.grown h3 hbz (fun j hj => (hown.lt j hj).1)
  unfold Oper.wp
  simp [execOp, ho, resolve, invoke, builtin, hs, hx, hr, Result.andThen]
  exact h v' W' (by rw [scells_snoc]; simpa using h2) h4
end Go.Proofs.Ytfjcichcmdnheab
