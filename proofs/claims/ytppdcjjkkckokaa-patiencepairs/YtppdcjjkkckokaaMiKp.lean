/-
  What the least edit script keeps: kept, walked.
-/
import Derived.Test.YtppdcjjkkckokaaMiRep
namespace Go.Proofs.Ytppdcjjkkckokaa
open Go.RowKit

/-- how far what is kept is written down: the first a members, b of y's behind them; X and Y are left -/
def Pt (K Z : List Int) (n a : Nat) (b : Int) (X Y : List Int) : Prop := ∃ P : List Int, P.length = a ∧ a ≤ n ∧ Z = P ++ List.replicate (n - a) (-1) ∧ P ++ kp b X Y = K
theorem Pt.start (x y : List Int) : Pt (kp 0 x y) (List.replicate x.length (-1)) x.length 0 0 x y := ⟨[], rfl, Nat.zero_le _, by simp, by simp⟩
theorem Pt.len {K Z : List Int} {n a : Nat} {b : Int} {X Y : List Int} (h : Pt K Z n a b X Y) : Z.length = n := by
  obtain ⟨P, h1, h2, h3, _⟩ := h
  rw [h3, List.length_append, h1, List.length_replicate]
  omega
theorem Pt.pair {K Z : List Int} {n a : Nat} {b : Int} {X Y X' Y' : List Int} (h : Pt K Z n a b X Y) (hn : a < n) (hk : kp b X Y = b :: kp (b + 1) X' Y') : Pt K (Z.set a b) n (a + 1) (b + 1) X' Y' := by
  obtain ⟨P, h1, h2, h3, h4⟩ := h
  refine ⟨P ++ [b], by simp [h1], hn, ?_, by rw [← h4, hk]; simp⟩
  rw [h3, show n - a = (n - (a + 1)) + 1 by omega, List.replicate_succ, List.set_append_right _ _ (by omega), h1]
  simp
theorem Pt.out {K Z : List Int} {n a : Nat} {b : Int} {X Y X' : List Int} (h : Pt K Z n a b X Y) (hn : a < n) (hk : kp b X Y = -1 :: kp b X' Y) : Pt K Z n (a + 1) b X' Y := by
  obtain ⟨P, h1, h2, h3, h4⟩ := h
  refine ⟨P ++ [-1], by simp [h1], hn, ?_, by rw [← h4, hk]; simp⟩
  rw [h3, show n - a = (n - (a + 1)) + 1 by omega, List.replicate_succ]
  simp
theorem Pt.skip {K Z : List Int} {n a : Nat} {b : Int} {X Y Y' : List Int} (h : Pt K Z n a b X Y) (hk : kp b X Y = kp (b + 1) X Y') : Pt K Z n a (b + 1) X Y' := by
  obtain ⟨P, h1, h2, h3, h4⟩ := h
  exact ⟨P, h1, h2, h3, by rw [← h4, hk]⟩
theorem Pt.done {K Z : List Int} {n a : Nat} {b : Int} {X Y : List Int} (h : Pt K Z n a b X Y) (hX : X.length = n - a) (he : X = [] ∨ Y = []) : Z = K := by
  obtain ⟨P, h1, h2, h3, h4⟩ := h
  rcases he with rfl | rfl
  · rw [kp_nil, List.append_nil] at h4
    simp at hX
    rw [h3, ← hX, ← h4]
    simp
  · rw [kp_none, hX] at h4
    rw [h3, h4]

/-- the state of the walk: the row of what is kept, the table, the variable that holds it -/
structure Kst (w : World) (g gt bx n M N : Nat) (Z : List Int) (T : List Value) (wr : World) : Prop where
  low : Below w.heap.size w wr
  own : wr.ownsRow w.heap.size 3 1 (.slice (some ⟨g, 0, none⟩) n n) n (icells Z)
  tab : wr.ownsRow w.heap.size 88 1 (.slice (some ⟨gt, 0, none⟩) N N) N T
  box : wr.heap[bx]? = some (Obj.cells #[.int .i64 (M : Int), .slice (some ⟨gt, 0, none⟩) N N] 66 (0, 0))
section
variable {w : World} {g gt bx n M N : Nat} {Z : List Int} {T : List Value} {wr : World}
theorem Kst.keep {w' : World} (h : Kst w g gt bx n M N Z T wr) (hb : Below wr.heap.size wr w') : Kst w g gt bx n M N Z T w' :=
  ⟨h.low.trans (hb.mono h.low.size), owns_keep h.own hb, owns_keep h.tab hb, (hb.block _ (Array.getElem?_eq_some_iff.1 h.box).1).trans h.box⟩
theorem Kst.drewN (h : Kst w g gt bx n M N Z T wr) (k : Nat) : Kst w g gt bx n M N Z T (wr.drewN k) := ⟨Below.dN h.low k, h.own, h.tab, h.box⟩
theorem Kst.bx' (h : Kst w g gt bx n M N Z T wr) : Bx bx M gt N wr wr := ⟨h.box, Below.refl _ _⟩
theorem own_at {base : Nat} {e : TypeId} {s : Nat} {g n c : Nat} {xs : List Value} (h : wr.ownsRow base e s (.slice (some ⟨g, 0, none⟩) n c) n xs) : base ≤ g ∧ ∃ cur, wr.heap[g]? = some (.cells cur e (0, 0)) := by
  rcases h.2 with ⟨h, _⟩ | ⟨g', cap, cur, h, hb, hc, _⟩
  · cases h
  · cases h
    exact ⟨hb, cur, hc⟩
theorem Kst.store (h : Kst w g gt bx n M N Z T wr) (p : Nat) (v : Int) : Kst w g gt bx n M N (Z.set p v) T (wr.setCell ⟨g, p, none⟩ (.int .i64 v)) := by
  obtain ⟨p1, g1⟩ := h.own.stored p (.int .i64 v)
  obtain ⟨hgb, cur, hg⟩ := own_at h.own
  obtain ⟨_, cur', hgt⟩ := own_at h.tab
  have e : (icells Z).set p (.int .i64 v) = icells (Z.set p v) := by simp [icells, List.map_set]
  rw [e] at p1
  refine ⟨h.low.grown g1 h.low.size (fun j hj => by have := Option.some.inj hj; omega), p1, ?_, ?_⟩
  · refine h.tab.kept g1 (.inr ?_)
    intro q
    have : gt = g := by simpa [Value.ownBlock] using q
    subst this
    rw [hg] at hgt
    cases hgt
  · refine (g1.block _ (Array.getElem?_eq_some_iff.1 h.box).1 (fun q => ?_)).trans h.box
    have : bx = g := by simpa using q
    subst this
    have := h.box
    rw [hg] at this
    cases this
end
theorem Bx.cell {b W g N : Nat} {wr w : World} (h : Bx b W g N wr w) {a : Addr} {v : Value} (hc : wr.cell? a = some v) : w.cell? a = some v := by
  rw [World.cell?_of_block (w := wr) (h.low.block _ (World.block_lt_of_cell? wr _ hc))]; exact hc
end Go.Proofs.Ytppdcjjkkckokaa
