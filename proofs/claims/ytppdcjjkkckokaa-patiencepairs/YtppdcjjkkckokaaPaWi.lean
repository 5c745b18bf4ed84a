/-
  The heads and one more: heads.with, walked.
-/
import Derived.Test.YtppdcjjkkckokaaPaRp
import Derived.Test.YtppdcjjkkckokaaPaHd
namespace Go.Proofs.Ytppdcjjkkckokaa
open Go.RowKit
attribute [local simp] low_drew low_alloc

theorem low_grown {w u : World} (h : Low w u) (r : Option Nat) : w.grownBy u r := ⟨Below.os h, Below.tape h, Below.output h, Below.size h, fun k hk _ => Below.block h k hk⟩
theorem owns_lt2 {w : World} {base n : Nat} {e : TypeId} {s : Nat} {v : Value} {xs : List Value} (ho : w.ownsRow base e s v n xs) {g : Nat} (hg : v.ownBlock = some g) : g < w.heap.size := by
  rcases ho.2 with ⟨h1, _⟩ | ⟨g', cap, cur, q1, q2, q3, _⟩
  · rw [h1] at hg; cases hg
  · rw [q1] at hg; cases hg; exact (Array.getElem?_eq_some_iff.1 q3).1
theorem blk_new (u : World) (p : Pr) : Blk (u.alloc (.cells #[.int .i64 p.X, .int .i64 p.Y] 44)) u.heap.size (prC p) := _root_.Go.heap_alloc_new u _
/-- a new pair in memory -/
structure Np (W : World) (gp : Nat) (p : Pr) (u : World) : Prop where
  blk : Blk u gp (prC p)
  ge : W.heap.size ≤ gp
theorem np_new {W u : World} (h : Low W u) (p : Pr) : Np W u.heap.size p (u.alloc (.cells #[.int .i64 p.X, .int .i64 p.Y] 44)) := ⟨blk_new u p, Below.size h⟩
theorem np_drew (W : World) (gp : Nat) (p : Pr) (u : World) : Np W gp p u.drew ↔ Np W gp p u := ⟨fun h => ⟨h.blk, h.ge⟩, fun h => ⟨h.blk, h.ge⟩⟩

theorem upTo_low (h : List Pr) (x : Int) (v : Value) (W u : World) (hh : HPr W v h) (hl : h.length ≤ 1048576) (hs : Hid (Stair h)) (r : Nat) (hr : Hid (upto h x = r)) (hL : Low W u) :
    Calls Try.prog 74 #[v, .int .i64 x] u fun e w' => e = .returned (.int .i64 (r : Int)) ∧ Low W w' := by
  refine (upTo_f h x v u (HPr.keep hh hL (Nat.le_refl _)) hl hs r hr).mono ?_
  rintro e w' ⟨rfl, h2⟩
  exact ⟨rfl, Below.trans hL (h2.mono (Below.size hL))⟩
theorem upTo_np (h : List Pr) (x : Int) (v : Value) (W u : World) (hh : HPr W v h) (hl : h.length ≤ 1048576) (hs : Hid (Stair h)) (r : Nat) (hr : Hid (upto h x = r)) (hL : Low W u) (gp : Nat) (p : Pr) (hp : Np W gp p u) :
    Calls Try.prog 74 #[v, .int .i64 x] u fun e w' => e = .returned (.int .i64 (r : Int)) ∧ Low W w' ∧ Np W gp p w' := by
  refine (upTo_f h x v u (HPr.keep hh hL (Nat.le_refl _)) hl hs r hr).mono ?_
  rintro e w' ⟨rfl, h2⟩
  exact ⟨rfl, Below.trans hL (h2.mono (Below.size hL)), (h2.block gp (Array.getElem?_eq_some_iff.1 hp.blk).1).trans hp.blk, hp.ge⟩
theorem Replace_low (h : List Pr) (p : Pr) (i j gp base : Nat) (v : Value) (W u : World) (hO : W.ownsRow base 44 2 v h.length (prcells h)) (hb : base ≤ W.heap.size) (hij : i ≤ j) (hj : j ≤ h.length) (hl : h.length ≤ 1048576) (hL : Low W u) (hp : Np W gp p u) :
    Calls Try.prog 76 #[v, .int .i64 (i : Int), .int .i64 (j : Int), .slice (some ⟨gp, 0, none⟩) 1 1] u fun e w' => ∃ v', e = .returned v' ∧ Grows base W v v' (h.take i ++ p :: h.drop j) w' := by
  refine (Replace_f h p i j gp base v u (owns_keep hO hL) (Nat.le_trans hb (Below.size hL)) hij hj hp.blk (fun e => by have := owns_lt2 hO e; have := hp.ge; omega) hl).mono ?_
  rintro e w' ⟨v', rfl, h1, h2, h3⟩
  refine ⟨v', rfl, h1, (low_grown hL _).trans h2, ?_⟩
  rcases h3 with h3 | ⟨g, h3, h4⟩
  · exact .inl h3
  · exact .inr ⟨g, h3, Nat.le_trans (Below.size hL) h4⟩

set_option maxRecDepth 10000 in
set_option maxHeartbeats 2000000 in
theorem with_f (h : List Pr) (p : Pr) (base : Nat) (v : Value) (w : World) (hO : w.ownsRow base 44 2 v h.length (prcells h)) (hb : base ≤ w.heap.size) (hs : Hid (Stair h)) (hn : Hid (¬ ∃ a ∈ h, ab a p)) (hl : h.length ≤ 1048576) (L : List Pr) (hL : Hid (ins h p = L)) :
    Calls Try.prog 63 #[v, prV p] w fun e w' => ∃ v', e = .returned v' ∧ Grows base w v v' L w' := by
  obtain ⟨ho, hc, rfl⟩ := (holds_of hO).form
  obtain ⟨X, Y⟩ := p
  obtain ⟨i, hi⟩ : ∃ i, upto h X = i := ⟨_, rfl⟩
  obtain ⟨j, hj⟩ : ∃ j, grt h Y = j := ⟨_, rfl⟩
  have hij : i ≤ j := by rw [← hi, ← hj]; exact upto_grt hs.out hn.out
  have hjl : j ≤ h.length := by rw [← hj]; exact grt_le h Y
  have HI : Hid (upto h X = i) := hi
  have HJ : Hid (grt h Y = j) := hj
  have HL : Hid (h.take i ++ ⟨X, Y⟩ :: h.drop j = L) := (by show _ = _; rw [← hL.out, ← hi, ← hj]; rfl)
  clear hi hj hL
  unfold prV
  dsimp only
  obtain ⟨W2, hW2⟩ : ∃ W2, (w.alloc (Obj.cells #[.slice ho h.length hc] 94)).alloc (Obj.cells #[.int .i64 X, .int .i64 Y] 44) = W2 := ⟨_, rfl⟩
  have hB : Below w.heap.size w W2 := by rw [← hW2]; exact ((Below.refl _ w).alloc (Nat.le_refl _) _).alloc (by simp) _
  have hsz : W2.heap.size = w.heap.size + 1 + 1 := by rw [← hW2]; simp
  have k1 : W2.heap[w.heap.size]? = some (Obj.cells #[.slice ho h.length hc] 94 (0, 0)) := by rw [← hW2]; exact (Below.heap_alloc _ _ _ (by simp)).trans (_root_.Go.heap_alloc_new w _)
  have k2 : W2.heap[w.heap.size + 1]? = some (Obj.cells #[.int .i64 X, .int .i64 Y] 44 (0, 0)) := by rw [← hW2]; exact alloc_second w _ _
  have c1 : W2.cell? ⟨w.heap.size, 0, none⟩ = some (.slice ho h.length hc) := by rw [Lib.cell_of_heap k1]; rfl
  have c2 : W2.cell? ⟨w.heap.size + 1, 0, none⟩ = some (.int .i64 X) := by rw [Lib.cell_of_heap k2]; rfl
  have c3 : W2.cell? ⟨w.heap.size + 1, 1, none⟩ = some (.int .i64 Y) := by rw [Lib.cell_of_heap k2]; rfl
  have hO2 := owns_keep hO hB
  have hh2 : HPr W2 (.slice ho h.length hc) h := holds_of hO2
  have hcs : ∀ u : World, Low W2 u → u.cell? ⟨w.heap.size, 0, none⟩ = some (.slice ho h.length hc) ∧ u.cell? ⟨w.heap.size + 1, 0, none⟩ = some (.int .i64 X) ∧ u.cell? ⟨w.heap.size + 1, 1, none⟩ = some (.int .i64 Y) := fun u hu => ⟨cell_stay hu (by omega) c1, cell_stay hu (by omega) c2, cell_stay hu (by omega) c3⟩
  have hcs2 : ∀ u : World, W2.grownBy u (Value.slice ho h.length hc).ownBlock → u.cell? ⟨w.heap.size, 0, none⟩ = some (.slice ho h.length hc) ∧ u.cell? ⟨w.heap.size + 1, 0, none⟩ = some (.int .i64 X) ∧ u.cell? ⟨w.heap.size + 1, 1, none⟩ = some (.int .i64 Y) := fun u hu => by
    have n1 := hu.block w.heap.size (by omega) (fun e => Nat.lt_irrefl _ (owns_lt2 hO e.symm))
    have n2 := hu.block (w.heap.size + 1) (by omega) (fun e => by have := owns_lt2 hO e.symm; omega)
    exact ⟨by rw [Lib.cell_of_heap (n1.trans k1)]; rfl, by rw [Lib.cell_of_heap (n2.trans k2)]; rfl, by rw [Lib.cell_of_heap (n2.trans k2)]; rfl⟩
  clear k1 k2
  go_enter Try.func63, Try.ntmps63
  go_wp2_with fail
  refine (Search_f 75 #[.pointer (some ⟨w.heap.size, 0, none⟩), .pointer (some ⟨w.heap.size + 1, 0, none⟩)] h.length j (fun i => decide (Y < py h i)) (fun u => Low W2 u) W2 (Below.refl _ _) (enters_of Try.func75 (by kernel_rfl) rfl) (by omega) hjl
    (fun i hi u hu => with1_f h ⟨X, Y⟩ i w.heap.size (w.heap.size + 1) _ W2 u hu (by omega) (by omega) c1 c3 hh2 hi)
    (fun i hi => by
      have hi' : i < h.length := by omega
      rw [← HJ.out] at hi
      have := grt_lt hi hi'
      rw [py_eq hi']
      exact decide_eq_false (by omega))
    (fun i hi hil => by
      rw [← HJ.out] at hi
      rw [py_eq hil]
      exact decide_eq_true (grt_ge hs.out hi hil))).mono ?_
  rintro e w3 ⟨rfl, hL3⟩
  obtain ⟨d1, d2, d3⟩ := hcs w3 hL3
  have hL3' : Low W2 w3 := hL3
  clear c1 c2 c3
  go_wp2_with fail
  go_region_held3 (fun w' => w'.cell? ⟨w.heap.size, 0, none⟩ = some (.slice ho h.length hc) ∧ w'.cell? ⟨w.heap.size + 1, 0, none⟩ = some (.int .i64 X) ∧ w'.cell? ⟨w.heap.size + 1, 1, none⟩ = some (.int .i64 Y)) (go_keep)
    (first
      | (go_at_call 74; refine (upTo_np h X _ W2 _ hh2 hl hs i HI (by first | assumption | (simp [*]; done)) _ ⟨X, Y⟩ (by exact ⟨blk_new w3 ⟨X, Y⟩, Below.size hL3'⟩)).mono ?_; rintro e u1 ⟨rfl, hlow, hnp⟩; obtain ⟨e1, e2, e3⟩ := hcs u1 hlow)
      | (go_at_call 74; refine (upTo_low h X _ W2 _ hh2 hl hs i HI (by first | assumption | (simp [*]; done))).mono ?_; rintro e u1 ⟨rfl, hlow⟩; obtain ⟨e1, e2, e3⟩ := hcs u1 hlow)
      | (go_at_call 76; refine (Replace_low h ⟨X, Y⟩ i j _ base _ W2 _ hO2 (by omega) hij hjl hl (by first | assumption | (simp [*]; done)) (by first | exact hnp | exact ⟨hnp.blk, hnp.ge⟩ | exact ⟨blk_new u1 ⟨X, Y⟩, Below.size hlow⟩)).mono ?_; rintro e u2 ⟨v', rfl, hG⟩; obtain ⟨e1, e2, e3⟩ := hcs2 u2 hG.2.1))
  all_goals
    rw [HL.out] at hG
    obtain ⟨ao', c', rfl⟩ := (holds_of hG.1).form
    go_wp2
    go_ret
    refine ⟨_, rfl, ?_, (low_grown hB _).trans hG.2.1, ?_⟩
    · exact hG.1
    · rcases hG.2.2 with h3 | ⟨g, h3, h4⟩
      · exact .inl h3
      · exact .inr ⟨g, h3, by omega⟩
end Go.Proofs.Ytppdcjjkkckokaa
