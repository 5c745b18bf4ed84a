/-
  Texts that belong together, joined: PaWi, PaBk, PaRs, MiWm, EdRMk, MiTb, PaRl, PaRg, PaRq, PaRt.
-/
import Derived.Test.YtnlbjknfahhfaaaGreatDoorPartA9
import Derived.Test.YtnlbjknfahhfaaaGreatDoorPartA5
import Derived.Test.YtnlbjknfahhfaaaGreatDoorPartA7

/- The heads and one more: heads.with, walked. -/
set_option maxRecDepth 20000
namespace Go.Proofs.YtnlbjknfahhfaaaGreatDoor
open Go.RowKit
attribute [local simp] low_drew low_alloc

theorem owns_lt2 {w : World} {base n : Nat} {e : TypeId} {s : Nat} {v : Value} {xs : List Value} (ho : w.ownsRow base e s v n xs) {g : Nat} (hg : v.ownBlock = some g) : g < w.heap.size := by
  rcases ho.2 with ⟨h1, _⟩ | ⟨g', cap, cur, q1, q2, q3, _⟩
  · rw [h1] at hg; cases hg
  · rw [q1] at hg; cases hg; exact (Array.getElem?_eq_some_iff.1 q3).1
theorem blk_new (u : World) (p : Pr) : Blk (u.alloc (.cells #[.int .i64 p.X, .int .i64 p.Y] 189)) u.heap.size (prC p) := _root_.Go.heap_alloc_new u _
/-- a new pair in memory -/
structure Np (W : World) (gp : Nat) (p : Pr) (u : World) : Prop where
  blk : Blk u gp (prC p)
  ge : W.heap.size ≤ gp
theorem np_new {W u : World} (h : Low W u) (p : Pr) : Np W u.heap.size p (u.alloc (.cells #[.int .i64 p.X, .int .i64 p.Y] 189)) := ⟨blk_new u p, Below.size h⟩
theorem np_drew (W : World) (gp : Nat) (p : Pr) (u : World) : Np W gp p u.drew ↔ Np W gp p u := ⟨fun h => ⟨h.blk, h.ge⟩, fun h => ⟨h.blk, h.ge⟩⟩

theorem upTo_low (h : List Pr) (x : Int) (v : Value) (W u : World) (hh : HPr W v h) (hl : h.length ≤ 1048576) (hs : Hid (Stair h)) (r : Nat) (hr : Hid (upto h x = r)) (hL : Low W u) :
    Calls Tryz.prog 161 #[v, .int .i64 x] u fun e w' => e = .returned (.int .i64 (r : Int)) ∧ Low W w' := by
  refine (upTo_f h x v u (HPr.keep hh hL (Nat.le_refl _)) hl hs r hr).mono ?_
  rintro e w' ⟨rfl, h2⟩
  exact ⟨rfl, Below.trans hL (h2.mono (Below.size hL))⟩
theorem upTo_np (h : List Pr) (x : Int) (v : Value) (W u : World) (hh : HPr W v h) (hl : h.length ≤ 1048576) (hs : Hid (Stair h)) (r : Nat) (hr : Hid (upto h x = r)) (hL : Low W u) (gp : Nat) (p : Pr) (hp : Np W gp p u) :
    Calls Tryz.prog 161 #[v, .int .i64 x] u fun e w' => e = .returned (.int .i64 (r : Int)) ∧ Low W w' ∧ Np W gp p w' := by
  refine (upTo_f h x v u (HPr.keep hh hL (Nat.le_refl _)) hl hs r hr).mono ?_
  rintro e w' ⟨rfl, h2⟩
  exact ⟨rfl, Below.trans hL (h2.mono (Below.size hL)), (h2.block gp (Array.getElem?_eq_some_iff.1 hp.blk).1).trans hp.blk, hp.ge⟩
theorem Replace_low (h : List Pr) (p : Pr) (i j gp base : Nat) (v : Value) (W u : World) (hO : W.ownsRow base 189 2 v h.length (prcells h)) (hb : base ≤ W.heap.size) (hij : i ≤ j) (hj : j ≤ h.length) (hl : h.length ≤ 1048576) (hL : Low W u) (hp : Np W gp p u) :
    Calls Tryz.prog 163 #[v, .int .i64 (i : Int), .int .i64 (j : Int), .slice (some ⟨gp, 0, none⟩) 1 1] u fun e w' => ∃ v', e = .returned v' ∧ Grows base W v v' (h.take i ++ p :: h.drop j) w' := by
  refine (Replace_f h p i j gp base v u (owns_keep hO hL) (Nat.le_trans hb (Below.size hL)) hij hj hp.blk (fun e => by have := owns_lt2 hO e; have := hp.ge; omega) hl).mono ?_
  rintro e w' ⟨v', rfl, h1, h2, h3⟩
  refine ⟨v', rfl, h1, (low_grown hL _).trans h2, ?_⟩
  rcases h3 with h3 | ⟨g, h3, h4⟩
  · exact .inl h3
  · exact .inr ⟨g, h3, Nat.le_trans (Below.size hL) h4⟩

set_option maxRecDepth 10000 in
set_option maxHeartbeats 2000000 in
theorem with_f (h : List Pr) (p : Pr) (base : Nat) (v : Value) (w : World) (hO : w.ownsRow base 189 2 v h.length (prcells h)) (hb : base ≤ w.heap.size) (hs : Hid (Stair h)) (hn : Hid (¬ ∃ a ∈ h, ab a p)) (hl : h.length ≤ 1048576) (L : List Pr) (hL : Hid (ins h p = L)) :
    Calls Tryz.prog 141 #[v, prV p] w fun e w' => ∃ v', e = .returned v' ∧ Grows base w v v' L w' := by
  obtain ⟨ho, hc, rfl⟩ := (holds_of hO).form
  obtain ⟨X, Y⟩ := p
  obtain ⟨i, hi⟩ : ∃ i, upto h X = i := ⟨_, rfl⟩
  obtain ⟨j, hj⟩ : ∃ j, grt h Y = j := ⟨_, rfl⟩
  have hij : i ≤ j := by rw [← hi, ← hj]; exact upto_grt hs.out hn.out
  have hjl : j ≤ h.length := by rw [← hj]; exact grt_le h Y
  have HI : Hid (upto h X = i) := hi
  have HJ : Hid (grt h Y = j) := hj
  have HL : Hid (h.take i ++ ⟨X, Y⟩ :: h.drop j = L) := (by show _ = _; rw [← hL.out, ← hi, ← hj]; rfl)
  clear hi hj hL
  unfold prV
  dsimp only
  obtain ⟨W2, hW2⟩ : ∃ W2, (w.alloc (Obj.cells #[.slice ho h.length hc] 241)).alloc (Obj.cells #[.int .i64 X, .int .i64 Y] 189) = W2 := ⟨_, rfl⟩
  have hB : Below w.heap.size w W2 := by rw [← hW2]; exact ((Below.refl _ w).alloc (Nat.le_refl _) _).alloc (by simp) _
  have hsz : W2.heap.size = w.heap.size + 1 + 1 := by rw [← hW2]; simp
  have k1 : W2.heap[w.heap.size]? = some (Obj.cells #[.slice ho h.length hc] 241 (0, 0)) := by rw [← hW2]; exact (Below.heap_alloc _ _ _ (by simp)).trans (_root_.Go.heap_alloc_new w _)
  have k2 : W2.heap[w.heap.size + 1]? = some (Obj.cells #[.int .i64 X, .int .i64 Y] 189 (0, 0)) := by rw [← hW2]; exact alloc_second w _ _
  have c1 : W2.cell? ⟨w.heap.size, 0, none⟩ = some (.slice ho h.length hc) := by rw [Lib.cell_of_heap k1]; rfl
  have c2 : W2.cell? ⟨w.heap.size + 1, 0, none⟩ = some (.int .i64 X) := by rw [Lib.cell_of_heap k2]; rfl
  have c3 : W2.cell? ⟨w.heap.size + 1, 1, none⟩ = some (.int .i64 Y) := by rw [Lib.cell_of_heap k2]; rfl
  have hO2 := owns_keep hO hB
  have hh2 : HPr W2 (.slice ho h.length hc) h := holds_of hO2
  have hcs : ∀ u : World, Low W2 u → u.cell? ⟨w.heap.size, 0, none⟩ = some (.slice ho h.length hc) ∧ u.cell? ⟨w.heap.size + 1, 0, none⟩ = some (.int .i64 X) ∧ u.cell? ⟨w.heap.size + 1, 1, none⟩ = some (.int .i64 Y) := fun u hu => ⟨cell_stay hu (by omega) c1, cell_stay hu (by omega) c2, cell_stay hu (by omega) c3⟩
  have hcs2 : ∀ u : World, W2.grownBy u (Value.slice ho h.length hc).ownBlock → u.cell? ⟨w.heap.size, 0, none⟩ = some (.slice ho h.length hc) ∧ u.cell? ⟨w.heap.size + 1, 0, none⟩ = some (.int .i64 X) ∧ u.cell? ⟨w.heap.size + 1, 1, none⟩ = some (.int .i64 Y) := fun u hu => by
    have n1 := hu.block w.heap.size (by omega) (fun e => Nat.lt_irrefl _ (owns_lt2 hO e.symm))
    have n2 := hu.block (w.heap.size + 1) (by omega) (fun e => by have := owns_lt2 hO e.symm; omega)
    exact ⟨by rw [Lib.cell_of_heap (n1.trans k1)]; rfl, by rw [Lib.cell_of_heap (n2.trans k2)]; rfl, by rw [Lib.cell_of_heap (n2.trans k2)]; rfl⟩
  clear k1 k2
  go_enter Tryz.func141, Tryz.ntmps141
  go_wp2_with fail
  refine (Search_f 162 #[.pointer (some ⟨w.heap.size, 0, none⟩), .pointer (some ⟨w.heap.size + 1, 0, none⟩)] h.length j (fun i => decide (Y < py h i)) (fun u => Low W2 u) W2 (Below.refl _ _) (enters_of Tryz.func162 (by kernel_rfl) rfl) (by omega) hjl
    (fun i hi u hu => with1_f h ⟨X, Y⟩ i w.heap.size (w.heap.size + 1) _ W2 u hu (by omega) (by omega) c1 c3 hh2 hi)
    (fun i hi => by
      have hi' : i < h.length := by omega
      rw [← HJ.out] at hi
      have := grt_lt hi hi'
      rw [py_eq hi']
      exact decide_eq_false (by omega))
    (fun i hi hil => by
      rw [← HJ.out] at hi
      rw [py_eq hil]
      exact decide_eq_true (grt_ge hs.out hi hil))).mono ?_
  rintro e w3 ⟨rfl, hL3⟩
  obtain ⟨d1, d2, d3⟩ := hcs w3 hL3
  have hL3' : Low W2 w3 := hL3
  clear c1 c2 c3
  go_wp2_with fail
  go_region_held3 (fun w' => w'.cell? ⟨w.heap.size, 0, none⟩ = some (.slice ho h.length hc) ∧ w'.cell? ⟨w.heap.size + 1, 0, none⟩ = some (.int .i64 X) ∧ w'.cell? ⟨w.heap.size + 1, 1, none⟩ = some (.int .i64 Y)) (go_keep)
    (first
      | (go_at_call 161; refine (upTo_np h X _ W2 _ hh2 hl hs i HI (by first | assumption | (simp [*]; done)) _ ⟨X, Y⟩ (by exact ⟨blk_new w3 ⟨X, Y⟩, Below.size hL3'⟩)).mono ?_; rintro e u1 ⟨rfl, hlow, hnp⟩; obtain ⟨e1, e2, e3⟩ := hcs u1 hlow)
      | (go_at_call 161; refine (upTo_low h X _ W2 _ hh2 hl hs i HI (by first | assumption | (simp [*]; done))).mono ?_; rintro e u1 ⟨rfl, hlow⟩; obtain ⟨e1, e2, e3⟩ := hcs u1 hlow)
      | (go_at_call 163; refine (Replace_low h ⟨X, Y⟩ i j _ base _ W2 _ hO2 (by omega) hij hjl hl (by first | assumption | (simp [*]; done)) (by first | exact hnp | exact ⟨hnp.blk, hnp.ge⟩ | exact ⟨blk_new u1 ⟨X, Y⟩, Below.size hlow⟩)).mono ?_; rintro e u2 ⟨v', rfl, hG⟩; obtain ⟨e1, e2, e3⟩ := hcs2 u2 hG.2.1))
  all_goals
    rw [HL.out] at hG
    obtain ⟨ao', c', rfl⟩ := (holds_of hG.1).form
    go_wp2
    go_ret
    refine ⟨_, rfl, ?_, (low_grown hB _).trans hG.2.1, ?_⟩
    · exact hG.1
    · rcases hG.2.2 with h3 | ⟨g, h3, h4⟩
      · exact .inl h3
      · exact .inr ⟨g, h3, by omega⟩
end Go.Proofs.YtnlbjknfahhfaaaGreatDoor

/- The iterator slices.Backward over a row of pairs: its contract for every loop body that keeps what it reads. -/
set_option maxRecDepth 20000
namespace Go.Proofs.YtnlbjknfahhfaaaGreatDoor
open Go.RowKit Go.Shelf
attribute [local go_sem] Oper.semAt_some

/-- what a round keeps: all below n₀, and the iterator's box -/
structure Kq (n₀ lo : Nat) (W W' : World) : Prop where
  low : Below n₀ W W'
  box : W'.heap[lo]? = W.heap[lo]?
section
variable {n₀ lo : Nat} {A B C : World}
theorem Kq.refl (W : World) : Kq n₀ lo W W := ⟨Below.refl _ _, rfl⟩
theorem Kq.trans (h : Kq n₀ lo A B) (k : Kq n₀ lo B C) : Kq n₀ lo A C := ⟨h.low.trans k.low, k.box.trans h.box⟩
theorem Kq.alloc {W : World} (hn : n₀ ≤ W.heap.size) (hl : lo < W.heap.size) (o : Obj) : Kq n₀ lo W (W.alloc o) := ⟨(Below.refl _ W).alloc hn o, Below.heap_alloc W o lo hl⟩
theorem Kq.putObj {w : World} (hn : n₀ ≤ w.heap.size) (hl : lo < w.heap.size) (W : World) (l : Nat) (o o' : Obj) (hlw : w.heap.size ≤ l) (h : W.heap[l]? = some o) (hc : o.isCells = false) (hw : o.isWalk = false) : Kq n₀ lo W (W.putObj l o') :=
  ⟨belowK_b hn W l o o' hlw h hc hw, by have hne : l ≠ lo := (by omega); simp [World.putObj, hne]⟩
theorem Kq.drewN (W : World) (k : Nat) : Kq n₀ lo W (W.drewN k) := ⟨Below.dN (Below.refl _ W) k, rfl⟩
end
/-- the members with their places -/
def en (k : Nat) : List Pr → List (Nat × Pr)
  | [] => []
  | p :: t => (k, p) :: en (k + 1) t
theorem en_append (k : Nat) (a b : List Pr) : en k (a ++ b) = en k a ++ en (k + a.length) b := by
  induction a generalizing k with
  | nil => rfl
  | cons p t ih => simp [en, ih]; congr 1; omega
theorem en_take (l : List Pr) (i : Nat) (hi : i < l.length) : (en 0 (l.take (i + 1))).reverse = (i, l[i]) :: (en 0 (l.take i)).reverse := by
  rw [List.take_succ_eq_append_getElem hi, en_append, List.reverse_append]
  have : 0 + (l.take i).length = i := by rw [List.length_take]; omega
  rw [this]
  rfl
theorem en_snd (k : Nat) (l : List Pr) : (en k l).map (·.2) = l := by
  induction l generalizing k with
  | nil => rfl
  | cons p t ih => simp [en, ih]
/-- a member with its place, which is below n -/
abbrev Mp (n : Nat) := { x : Nat × Pr // x.1 < n }

theorem Backward_any (ao : Option Addr) (len c : Nat) (w : World) :
    Calls Tryz.prog 137 #[.slice ao len c] w fun e w' =>
      e = .returned (.func (.func 160) #[] #[.pointer (some ⟨w.heap.size, 0, none⟩)]) ∧ w' = w.alloc (.cells #[.slice ao len c] 185) := by
  go_enter Tryz.func137, Tryz.ntmps137
  go_wp2
  go_ret
  exact ⟨rfl, rfl⟩

set_option maxRecDepth 100000 in
set_option maxHeartbeats 2000000 in
theorem back1_in (N : Nat) (hN : 1 ≤ N) (lp lo n₀ : Nat) (ao : Option Addr) (ca : Nat) (l : List Pr) (hlen : l.length ≤ 1048576)
    (J Jx : List (Mp l.length) → World → Prop) (W : World) (_hJ : AbidesFrom W.heap.size J)
    (hY : ∀ pre (x : Mp l.length) W1, J pre W1 → pre.length < l.length → YieldAt Fence.wide (N - 1) Tryz.prog lp #[.int .i64 (x.1.1 : Int), prV x.1.2] W1 fun e W' =>
      (e = .returned (.bool true) ∧ J (pre ++ [x]) W' ∧ Kq n₀ lo W1 W') ∨ (e = .returned (.bool false) ∧ Jx (pre ++ [x]) W'))
    (_hlo : n₀ ≤ lo) (_hsz : lo < W.heap.size) (hb0 : W.heap[lo]? = some (.cells #[.slice ao l.length ca] 185 (0, 0)))
    (hl : HPr W (.slice ao l.length ca) l) (hb : ∀ a, ao = some a → 0 < l.length → a.block < n₀) (h0 : J [] W) :
    CallsIn Fence.wide N Tryz.prog 160 #[.func (.yield lp) #[] #[], .pointer (some ⟨lo, 0, none⟩)] W fun e W' => (∃ v, e = .returned v) ∧
      ((∃ ys : List (Mp l.length), ys.map (·.1) = (en 0 l).reverse ∧ J ys W') ∨ (∃ pre, True ∧ Jx pre W')) := by
  have d0 : W.cell? ⟨lo, 0, none⟩ = some (.slice ao l.length ca) := by rw [Lib.cell_of_heap hb0]; rfl
  refine callsIn_of_wp Tryz.func160 rfl trivial ?_ rfl
  simp only [Tryz.ntmps160, List.size_toArray, List.length_cons, List.length_nil, Nat.reduceAdd, Nat.reduceSub, Array.replicate_succ, Array.replicate_zero, List.push_toArray, List.append_toArray, List.nil_append, List.cons_append]
  gi_wp2
  gi_loopw [3] (fun iv wr => ∃ (k : Nat) (z : Int) (pre : List (Mp l.length)), k ≤ l.length ∧ pre.length + k = l.length ∧ iv = .int .i64 z ∧ z + 1 = k ∧ Kq n₀ lo W wr ∧ J pre wr ∧ Hid (pre.map (·.1) ++ (en 0 (l.take k)).reverse = (en 0 l).reverse)) (fun iv _ => (intOf iv + 1).toNat)
  case atStart => exact ⟨l.length, (l.length : Int) - 1, [], Nat.le_refl _, by simp, by go_num, by omega, Kq.refl W, h0, (by show _ = _; simp)⟩
  case round =>
    obtain ⟨k, z, pre, hk, hpl, rfl, hz, hK, hJr, hR⟩ := hrel
    have hszr := hK.low.size
    have hbx := hK.box.trans hb0
    have d1 : wr.cell? ⟨lo, 0, none⟩ = some (.slice ao l.length ca) := by rw [Lib.cell_of_heap hbx]; rfl
    cases k with
    | zero =>
      obtain rfl : z = -1 := by omega
      gi_wp2
      go_end0
      exact ⟨⟨_, rfl⟩, .inl ⟨pre, by have h := hR.out; rw [← h]; simp [en], hJr⟩⟩
    | succ i =>
      obtain rfl : z = (i : Int) := by omega
      have hlt : i < l.length := by omega
      obtain ⟨bk, off, rfl, hbk, hc⟩ := HPr.at hl (by omega)
      have hbn := hb _ rfl (by omega)
      have hcell : ∀ o v, W.cell? ⟨bk, o, none⟩ = some v → wr.cell? ⟨bk, o, none⟩ = some v := fun o v h => by
        rw [← h]
        unfold World.cell?
        rw [hK.low.block bk hbn]
      obtain ⟨c0', c1'⟩ := hc i hlt
      have c0 := hcell _ _ c0'
      have c1 := hcell _ _ c1'
      have HR : Hid (pre.map (·.1) ++ (i, l[i]) :: (en 0 (l.take i)).reverse = (en 0 l).reverse) := (by
        show _ = _
        rw [← en_take l i hlt]
        exact hR.out)
      obtain ⟨p, hp⟩ : ∃ p, l[i] = p := ⟨_, rfl⟩
      rw [hp] at c0 c1 HR
      clear hc c0' c1' hcell hR hp
      have i1 : 0 ≤ (i : Int) := by omega
      have i2 : (i : Int) < (l.length : Int) := by omega
      obtain ⟨X, Y⟩ := p
      dsimp only at c0 c1
      obtain ⟨fn, tmps, assign, body, hy, hRd⟩ := hY pre ⟨(i, ⟨X, Y⟩), hlt⟩ wr hJr (by omega)
      simp only [prV] at hy
      gi_wp2
      refine hRd.mono ?_
      rintro e W3 (⟨rfl, hJ3, hk3⟩ | ⟨rfl, hJx3⟩)
      · gi_wp2
        go_roundw
        case rel => exact ⟨i, (i : Int) - 1, pre ++ [⟨(i, ⟨X, Y⟩), hlt⟩], by omega, by simp; omega, by go_num, by omega, hK.trans hk3, hJ3, (by show _ = _; rw [← HR.out]; simp)⟩
        case measure => simp [intOf]
      · gi_wp2
        refine bodyPost_ret (results_none rfl _ _ _) rfl ?_
        exact ⟨⟨_, rfl⟩, .inr ⟨_, trivial, hJx3⟩⟩

theorem HPr.lt {w : World} {ao : Option Addr} {n c : Nat} {l : List Pr} (h : HPr w (.slice ao n c) l) (a : Addr) (ha : ao = some a) (h0 : 0 < l.length) : a.block < w.heap.size := by
  obtain ⟨b, off, hb, hlt, _⟩ := HPr.at h h0
  rw [ha] at hb
  cases hb
  exact hlt
/-- the iterator over a row of pairs from its end -/
theorem back_stops (N : Nat) (hN : 1 ≤ N) (lo n₀ : Nat) (ao : Option Addr) (ca : Nat) (l : List Pr) (hlen : l.length ≤ 1048576) (w : World)
    (hlo : n₀ ≤ lo) (hsz : lo < w.heap.size) (hb0 : w.heap[lo]? = some (.cells #[.slice ao l.length ca] 185 (0, 0))) (hl : HPr w (.slice ao l.length ca) l) (hb : ∀ a, ao = some a → 0 < l.length → a.block < n₀) :
    SeqStopsK Fence.wide N Tryz.prog 160 #[.pointer (some ⟨lo, 0, none⟩)] (fun x : Mp l.length => #[.int .i64 (x.1.1 : Int), prV x.1.2]) (Kq n₀ lo) (fun ys => ys.map (·.1) = (en 0 l).reverse) (fun _ => True) l.length w := fun lp J Jx W hW hJ _ hY h0 =>
  back1_in N hN lp lo n₀ ao ca l hlen J Jx W hJ hY hlo (Nat.lt_of_lt_of_le hsz hW.size) ((hW.block _ hsz).trans hb0) (HPr.keep hl hW (Nat.le_refl _)) hb h0
end Go.Proofs.YtnlbjknfahhfaaaGreatDoor

/- The heads of all lengths in memory; the closure that looks whether one of them may stand behind a pair, walked. -/
set_option maxRecDepth 20000
namespace Go.Proofs.YtnlbjknfahhfaaaGreatDoor
open Go.RowKit
attribute [local simp] low_drew low_alloc

theorem owns_cells {w : World} {base n : Nat} {e : TypeId} {s : Nat} {v : Value} {xs : List Value} (ho : w.ownsRow base e s v n xs) {g : Nat} (hg : v.ownBlock = some g) : ∃ cur, w.heap[g]? = some (.cells cur e (0, 0)) ∧ base ≤ g := by
  rcases ho.2 with ⟨h1, _⟩ | ⟨g', cap, cur, q1, q2, q3, _⟩
  · rw [h1] at hg; cases hg
  · rw [q1] at hg; cases hg; exact ⟨cur, q3, q2⟩
theorem owns_differ {w : World} {base base' n n' : Nat} {e e' : TypeId} {s s' : Nat} {v v' : Value} {xs xs' : List Value} (ho : w.ownsRow base e s v n xs) (ho' : w.ownsRow base' e' s' v' n' xs') (hne : e ≠ e') : v.ownBlock = none ∨ v.ownBlock ≠ v'.ownBlock := by
  cases h : v.ownBlock with
  | none => exact .inl rfl
  | some g =>
    right
    intro e2
    obtain ⟨cur, h1, _⟩ := owns_cells ho h
    obtain ⟨cur', h2, _⟩ := owns_cells ho' e2.symm
    rw [h1] at h2
    cases h2
    exact hne rfl
/-- the heads of all lengths: a row of rows, each with its own block -/
structure Al (W : World) (base : Nat) (va : Value) (vals : List Value) (H : List (List Pr)) : Prop where
  row : W.ownsRow base 241 1 va vals.length vals
  len : vals.length = H.length
  own : ∀ (n : Nat) (v : Value) (h : List Pr), vals[n]? = some v → H[n]? = some h → W.ownsRow base 189 2 v h.length (prcells h)
  apart : ∀ (i j : Nat) (v v' : Value) (g : Nat), i ≠ j → vals[i]? = some v → vals[j]? = some v' → v.ownBlock = some g → v'.ownBlock ≠ some g
theorem Al.keep {W u : World} {base : Nat} {va : Value} {vals : List Value} {H : List (List Pr)} (h : Al W base va vals H) (hb : Low W u) : Al u base va vals H :=
  ⟨owns_keep h.row hb, h.len, fun n v k h1 h2 => owns_keep (h.own n v k h1 h2) hb, h.apart⟩
theorem Al.at {W : World} {base : Nat} {va : Value} {vals : List Value} {H : List (List Pr)} (h : Al W base va vals H) {n : Nat} (hn : n < H.length) : ∃ v, vals[n]? = some v ∧ HPr W v H[n] := by
  have hl := h.len
  exact ⟨vals[n], List.getElem?_eq_getElem (by omega), holds_of (h.own n _ _ (List.getElem?_eq_getElem (by omega)) (List.getElem?_eq_getElem hn))⟩
theorem Al.cell {W : World} {base : Nat} {ao : Option Addr} {k c : Nat} {vals : List Value} {H : List (List Pr)} (h : Al W base (.slice ao k c) vals H) {n : Nat} {v : Value} (hv : vals[n]? = some v) : ∃ g, ao = some ⟨g, 0, none⟩ ∧ g < W.heap.size ∧ W.cell? ⟨g, n, none⟩ = some v ∧ W.frozen? ⟨g, n, none⟩ = false := by
  have hn := (List.getElem?_eq_some_iff.1 hv).1
  rcases h.row.2 with ⟨h1, h2⟩ | ⟨g, cap, cur, q1, q2, q3, q4⟩
  · omega
  · cases q1
    refine ⟨g, rfl, (Array.getElem?_eq_some_iff.1 q3).1, ?_, h.row.frozenAt n⟩
    rw [h.row.cellAt n (by omega), hv]
/-- one list of heads has grown -/
theorem Al.set {W u : World} {base : Nat} {g k c : Nat} {vals : List Value} {H : List (List Pr)} (h : Al W base (.slice (some ⟨g, 0, none⟩) k c) vals H) {n : Nat} {v v' : Value} {h' : List Pr} (hv : vals[n]? = some v) (hG : Grows base W v v' h' u) : Al (u.setCell ⟨g, n, none⟩ v') base (.slice (some ⟨g, 0, none⟩) k c) (vals.set n v') (H.set n h') := by
  have hn := (List.getElem?_eq_some_iff.1 hv).1
  have hl := h.len
  obtain ⟨g1, g2, g3⟩ := hG
  have hnH : n < H.length := by omega
  have hOn := h.own n v H[n] hv (List.getElem?_eq_getElem hnH)
  have hrow : u.ownsRow base 241 1 (.slice (some ⟨g, 0, none⟩) k c) vals.length vals := h.row.kept g2 (owns_differ h.row hOn (by decide))
  have hkk : k = vals.length := by
    rcases h.row.2 with ⟨h1, h2⟩ | ⟨g', cap, cur, q1, _⟩
    · cases h1
    · cases q1; rfl
  subst hkk
  obtain ⟨p1, gs⟩ := hrow.stored n v'
  refine ⟨by rw [List.length_set]; exact p1, by simp [hl], fun m x y hx hy => ?_, fun i j x y b hij hx hy hb => ?_⟩
  · by_cases e : m = n
    · subst e
      rw [List.getElem?_set_self hn] at hx
      rw [List.getElem?_set_self hnH] at hy
      cases hx
      cases hy
      exact g1.kept gs (by simpa [Value.ownBlock] using owns_differ g1 hrow (by decide))
    · rw [List.getElem?_set_ne (fun q => e q.symm)] at hx hy
      have hOm := h.own m x y hx hy
      have hOu : u.ownsRow base 189 2 x y.length (prcells y) := hOm.kept g2 (by
        cases hb : x.ownBlock with
        | none => exact .inl rfl
        | some b => exact .inr (fun q => h.apart m n x v b e hx hv hb q.symm))
      exact hOu.kept gs (by simpa [Value.ownBlock] using owns_differ hOu hrow (by decide))
  · have key : ∀ m y, m ≠ n → vals[m]? = some y → ∀ b, y.ownBlock = some b → v'.ownBlock ≠ some b := fun m y hmn hy b hb q => by
      rcases g3 with g3 | ⟨g', g3, g4⟩
      · exact h.apart m n y v b hmn hy hv hb (g3 ▸ q)
      · rw [g3] at q
        cases q
        have hm := (List.getElem?_eq_some_iff.1 hy).1
        have := owns_lt2 (h.own m y H[m] hy (List.getElem?_eq_getElem (by omega))) hb
        omega
    by_cases ei : i = n
    · subst ei
      rw [List.getElem?_set_self hn] at hx
      cases hx
      rw [List.getElem?_set_ne hij] at hy
      exact fun q => key j y (fun q' => hij q'.symm) hy b q hb
    · rw [List.getElem?_set_ne (fun q => ei q.symm)] at hx
      by_cases ej : j = n
      · subst ej
        rw [List.getElem?_set_self hn] at hy
        cases hy
        exact key i x ei hx b hb
      · rw [List.getElem?_set_ne (fun q => ej q.symm)] at hy
        exact h.apart i j x y b hij hx hy hb
/-- one more, still empty -/
theorem Al.more {W w1 : World} {base : Nat} {va va' : Value} {vals : List Value} {H : List (List Pr)} (h : Al W base va vals H) (hO : w1.ownsRow base 241 1 va' (vals.length + 1) (vals ++ [.slice none 0 0])) (hg : W.grownBy w1 va.ownBlock) : Al w1 base va' (vals ++ [.slice none 0 0]) (H ++ [[]]) := by
  have hl := h.len
  refine ⟨by rw [List.length_append]; exact hO, by simp [hl], fun n v k hv hk => ?_, fun i j x y b hij hx hy hb => ?_⟩
  · by_cases e : n < vals.length
    · rw [List.getElem?_append_left e] at hv
      rw [List.getElem?_append_left (by omega)] at hk
      have := h.own n v k hv hk
      exact this.kept hg (owns_differ this h.row (by decide))
    · have hn : n = vals.length := by
        have := (List.getElem?_eq_some_iff.1 hv).1
        simp at this
        omega
      subst hn
      rw [List.getElem?_append_right (Nat.le_refl _)] at hv
      rw [hl, List.getElem?_append_right (Nat.le_refl _)] at hk
      simp at hv hk
      subst hv hk
      exact World.ownsRow_nil _ _ _ _
  · have key : ∀ (m : Nat) (y : Value), (vals ++ [.slice none 0 0])[m]? = some y → y.ownBlock ≠ none → vals[m]? = some y := fun m y hy hn => by
      by_cases e : m < vals.length
      · rwa [List.getElem?_append_left e] at hy
      · rw [List.getElem?_append_right (by omega)] at hy
        have := (List.getElem?_eq_some_iff.1 hy).1
        simp at this
        have e2 : m - vals.length = 0 := by omega
        rw [e2] at hy
        simp at hy
        subst hy
        exact absurd rfl hn
    intro q
    exact h.apart i j x y b hij (key i x hx (by rw [hb]; simp)) (key j y hy (by rw [q]; simp)) hb q

theorem behind_low (h : List Pr) (p : Pr) (v : Value) (W u : World) (hh : HPr W v h) (hl : h.length ≤ 1048576) (hs : Hid (Stair h)) (r : Bool) (hr : Hid (r = true ↔ ∃ a ∈ h, ab a p)) (hL : Low W u) :
    Calls Tryz.prog 140 #[v, prV p] u fun e w' => e = .returned (.bool r) ∧ Low W w' := by
  refine (behind_f h p v u (HPr.keep hh hL (Nat.le_refl _)) hl hs r hr).mono ?_
  rintro e w' ⟨rfl, h2⟩
  exact ⟨rfl, Below.trans hL (h2.mono (Below.size hL))⟩

set_option maxHeartbeats 1000000 in
theorem rf1_f (H : List (List Pr)) (p : Pr) (i B4 Bp base : Nat) (va : Value) (vals : List Value) (W u : World) (hL : Low W u) (hA : Al W base va vals H) (c4 : W.cell? ⟨B4, 0, none⟩ = some va) (hb4 : B4 < W.heap.size) (cX : W.cell? ⟨Bp, 0, none⟩ = some (.int .i64 p.X)) (cY : W.cell? ⟨Bp, 1, none⟩ = some (.int .i64 p.Y)) (hbp : Bp < W.heap.size) (hi : i < H.length) (hst : Hid (∀ h ∈ H, Stair h ∧ h.length ≤ 1048576)) (_hHl : H.length ≤ 1048576) (r : Bool) (hr : Hid (r = true ↔ ∃ a ∈ H[i], ab a p)) :
    Calls Tryz.prog 139 #[.int .i64 (i : Int), .pointer (some ⟨B4, 0, none⟩), .pointer (some ⟨Bp, 0, none⟩)] u fun e u' => e = .returned (.bool !r) ∧ Low W u' := by
  obtain ⟨ao, c, rfl⟩ := (holds_of hA.row).form
  obtain ⟨v, hv, hh⟩ := hA.at hi
  obtain ⟨g, rfl, hgl, cv, _⟩ := hA.cell hv
  have hs := hst.out _ (List.getElem_mem hi)
  obtain ⟨vo, vc, rfl⟩ := Holds.form hh
  have hlen := hA.len
  obtain ⟨X, Y⟩ := p
  dsimp only at cX cY
  have hcs : ∀ z : World, Low W z → z.cell? ⟨B4, 0, none⟩ = some (.slice (some ⟨g, 0, none⟩) vals.length c) ∧ z.cell? ⟨g, i, none⟩ = some (.slice vo H[i].length vc) ∧ z.cell? ⟨Bp, 0, none⟩ = some (.int .i64 X) ∧ z.cell? ⟨Bp, 1, none⟩ = some (.int .i64 Y) := fun z hz => ⟨cell_stay hz hb4 c4, cell_stay hz hgl cv, cell_stay hz hbp cX, cell_stay hz hbp cY⟩
  obtain ⟨d1, d2, d3, d4⟩ := hcs u hL
  obtain ⟨h, hh'⟩ : ∃ h, H[i] = h := ⟨_, rfl⟩
  rw [hh'] at hh hs d2 hcs hr
  have HS : Hid (Stair h) := hs.1
  have hhl := hs.2
  clear hh' c4 cX cY cv hs
  have i1 : 0 ≤ (i : Int) := by omega
  have i2 : (i : Int) < (vals.length : Int) := by omega
  go_enter Tryz.func139, Tryz.ntmps139
  go_wp2_with fail
  go_region_held3 (fun w' => w'.cell? ⟨B4, 0, none⟩ = some (.slice (some ⟨g, 0, none⟩) vals.length c) ∧ w'.cell? ⟨g, i, none⟩ = some (.slice vo h.length vc) ∧ w'.cell? ⟨Bp, 0, none⟩ = some (.int .i64 X) ∧ w'.cell? ⟨Bp, 1, none⟩ = some (.int .i64 Y) ∧ Low W w') (go_keep)
    (first | (go_at_call 140; refine (behind_low h ⟨X, Y⟩ _ W _ hh hhl HS r hr (by first | assumption | (simp [*]; done))).mono ?_; rintro e w' ⟨rfl, hlow⟩; obtain ⟨g0, g1, g2, g3⟩ := hcs w' hlow))
  go_wp2
  go_ret
  exact ⟨rfl, hlow⟩
end Go.Proofs.YtnlbjknfahhfaaaGreatDoor

/- Which rows are the same, told by the script; SameInts of any two rows, walked. -/
set_option maxRecDepth 20000
namespace Go.Proofs.YtnlbjknfahhfaaaGreatDoor
open Go.RowKit

theorem kp_self (b : Int) (x : List Int) : kp b x x = (List.range x.length).map fun (j : Nat) => b + (j : Int) := by
  induction x generalizing b with
  | nil => rw [kp_nil]; rfl
  | cons a x ih =>
    rw [kp_cons, if_pos rfl, ih, List.length_cons, List.range_succ_eq_map, List.map_cons, List.map_map]
    simp
    intro j _
    omega
theorem mk_nil (x y : List Int) (hx : x.length ≤ 4096) (hy : y.length ≤ 4096) : mkL (kp 0 x y) y.length = [] ↔ x = y := by
  constructor
  · intro h
    have hv : Vk 0 (y.length : Int) (kp 0 x y) := by
      have := kp_vk 0 x y (Int.le_refl _)
      rwa [Int.zero_add] at this
    have hl := kp_length 0 x y
    obtain ⟨⟨_, _, hS⟩, hU⟩ := mk_script hv (by omega) (by omega) (by rw [hl]; omega)
    rw [h] at hS hU
    rw [U_nil] at hU
    have hnm : x.length = y.length := by
      have h1 := hS.2.2
      rw [hl] at h1
      omega
    apply List.ext_getElem hnm
    intro i h1 h2
    have hm : (⟨(i : Int), (i : Int), 1⟩ : Rn) ∈ keptR 0 (kp 0 x y) := by
      rw [← hU, mem_un]
      rw [hl]
      refine ⟨rfl, ?_, ?_, ?_⟩ <;> dsimp only <;> omega
    rw [mem_keptR] at hm
    obtain ⟨_, _, h3, _⟩ := hm
    dsimp only at h3
    rw [show ((i : Int) - 0).toNat = i by omega] at h3
    obtain ⟨_, c, h4, h5⟩ := kp_same 0 x y (Int.le_refl _) i i h3 (by omega)
    rw [show ((i : Int) - 0).toNat = i by omega] at h5
    rw [List.getElem?_eq_getElem h1] at h4
    rw [List.getElem?_eq_getElem h2] at h5
    rw [Option.some.inj h4, Option.some.inj h5]
  · rintro rfl
    unfold mkL
    rw [kp_self, keptR_run 0 0 (Int.le_refl _), betw_un]
    simp [betw]
theorem gr_step (x y : List Int) (j i : Nat) (hj : j < x.length) (hi : i < y.length) : gr (x.drop j) (y.drop i) = if x[j] = y[i] then gr (x.drop (j + 1)) (y.drop (i + 1)) + 1 else gr (x.drop j) (y.drop (i + 1)) := by
  rw [List.drop_eq_getElem_cons hj, List.drop_eq_getElem_cons hi, gr]
theorem gr_end (x y : List Int) (j i : Nat) (h : x.length ≤ j ∨ y.length ≤ i) : gr (x.drop j) (y.drop i) = 0 := by
  rcases h with h | h
  · rw [List.drop_of_length_le h]; cases y.drop i <;> rfl
  · rw [List.drop_of_length_le h]; cases x.drop j <;> rfl

end Go.Proofs.YtnlbjknfahhfaaaGreatDoor

/- The reference's Make, walked. -/
set_option maxRecDepth 20000
namespace Go.Proofs.YtnlbjknfahhfaaaGreatDoor
open Go.RowKit

end Go.Proofs.YtnlbjknfahhfaaaGreatDoor

/- The reference's table of lengths, filled: table, walked. -/
set_option maxRecDepth 20000
namespace Go.Proofs.YtnlbjknfahhfaaaGreatDoor
open Go.RowKit

theorem infoInts : (Tryz.prog.info? 55).map (fun i => (i.zero, i.size, i.bytes)) = some (some (.slice none 0 0), 1, 24) := by kernel_rfl
/-- make([]T, n) -/
theorem run_makeN {T E : TypeId} {z : Value} {bytes : Nat} (hT : Tryz.prog.underlying T = some (.slice E)) (hinfo : (Tryz.prog.info? E).map (fun i => (i.zero, i.size, i.bytes)) = some (some z, 1, bytes)) (hby : bytes ≤ 32) (n : Int) (N : Nat) (hn : n = (N : Int)) (hN : N ≤ 1099511627776) (W : World) :
    (Instr.makeSlice T (.int .i64 n) (.int .i64 n)).run Tryz.prog W = .ok (.slice (some ⟨W.heap.size, 0, none⟩) N N) (W.alloc (.cells (madeCells z.cells N) E)) := by
  subst hn
  obtain ⟨i0, hi, hz0, hzs, hz2⟩ := info_parts hinfo
  have h1 : i0.bytes * N ≤ 32 * 1099511627776 := by rw [hz2]; exact Nat.mul_le_mul hby hN
  have hr := run_make (P := Tryz.prog) W T E i0 z hT hi hz0 .i64 .i64 (N : Int) (N : Int) (by omega) (Int.le_refl _) (by
    have : ((i0.bytes * N : Nat) : Int) ≤ 281474976710656 := by omega
    rwa [Int.natCast_mul] at this) (by omega)
  simpa [hzs] using hr
theorem madeL (z : Value) (N : Nat) : (madeCells #[z] N).toList = List.replicate N z := by
  apply List.ext_getElem
  · simp [madeCells]
  · intro i h1 h2
    simp [madeCells, Nat.mod_one]

/-- where row k lies -/
def rowB (B X k : Nat) : Nat := B + 1 + (X - k)
/-- a row as a value -/
def rowV (B X Y k : Nat) : Value := .slice (some ⟨rowB B X k, 0, none⟩) (Y + 1) (Y + 1)
/-- the state of the walk: rows from i on are made, those behind it are filled, row i from c on -/
structure Tb (w : World) (x y : List Int) (i c : Nat) (TS : List Value) (u : World) : Prop where
  low : Below w.heap.size w u
  size : u.heap.size = w.heap.size + 1 + (x.length + 1 - i)
  top : u.ownsRow w.heap.size 55 1 (.slice (some ⟨w.heap.size, 0, none⟩) (x.length + 1) (x.length + 1)) (x.length + 1) TS
  tops : ∀ k, i ≤ k → k ≤ x.length → TS[k]? = some (rowV w.heap.size x.length y.length k)
  rows : ∀ k, i ≤ k → k ≤ x.length → ∃ R, u.ownsRow w.heap.size 3 1 (rowV w.heap.size x.length y.length k) (y.length + 1) R ∧ ∀ j, j ≤ y.length → (i < k ∨ c ≤ j ∨ j = y.length ∨ k = x.length) → R[j]? = some (.int .i64 ((ln x y k j : Nat) : Int))
section
variable {w u : World} {x y : List Int} {i c : Nat} {TS : List Value}
theorem Tb.drewN (h : Tb w x y i c TS u) (n : Nat) : Tb w x y i c TS (u.drewN n) := ⟨Below.dN h.low n, h.size, h.top, h.tops, h.rows⟩
theorem Tb.top_len (h : Tb w x y i c TS u) : TS.length = x.length + 1 := by rw [h.top.1, Nat.mul_one]
theorem Tb.top_at (h : Tb w x y i c TS u) {k : Nat} (hi : i ≤ k) (hk : k ≤ x.length) : u.cell? ⟨w.heap.size, k, none⟩ = some (rowV w.heap.size x.length y.length k) := by
  rw [h.top.cellAt k (by omega)]
  exact h.tops k hi hk
theorem Tb.at (h : Tb w x y i c TS u) {k j : Nat} (hi : i ≤ k) (hk : k ≤ x.length) (hj : j ≤ y.length) (hc : i < k ∨ c ≤ j ∨ j = y.length ∨ k = x.length) : u.cell? ⟨rowB w.heap.size x.length k, j, none⟩ = some (.int .i64 ((ln x y k j : Nat) : Int)) := by
  obtain ⟨R, hR, hv⟩ := h.rows k hi hk
  unfold rowV at hR
  rw [hR.cellAt j (by omega)]
  exact hv j hj hc
theorem Tb.any_at (h : Tb w x y i c TS u) {j : Nat} (hi : i ≤ x.length) (hj : j ≤ y.length) : (∃ z, u.cell? ⟨rowB w.heap.size x.length i, j, none⟩ = some z) ∧ u.frozen? ⟨rowB w.heap.size x.length i, j, none⟩ = false := by
  obtain ⟨R, hR, hv⟩ := h.rows i (Nat.le_refl _) hi
  unfold rowV at hR
  refine ⟨?_, hR.frozenAt j⟩
  rw [hR.cellAt j (by omega)]
  have : R.length = y.length + 1 := by rw [hR.1, Nat.mul_one]
  exact ⟨R[j], List.getElem?_eq_getElem (by omega)⟩
theorem size_set (W : World) (b o : Nat) (v : Value) : (W.setCell ⟨b, o, none⟩ v).heap.size = W.heap.size := by
  show (W.heap.modify b _).size = _
  simp
theorem Tb.skip (h : Tb w x y i (c + 1) TS u) (hc : c = y.length ∨ i = x.length) : Tb w x y i c TS u := by
  refine ⟨h.low, h.size, h.top, h.tops, fun k h1 h2 => ?_⟩
  obtain ⟨R, hR, hv⟩ := h.rows k h1 h2
  exact ⟨R, hR, fun j hj hq => hv j hj (by omega)⟩
theorem Tb.next (h : Tb w x y (i + 1) 0 TS u) (hi : i ≤ x.length) (hY : y.length ≤ 1048576) : Tb w x y i (y.length + 1) (TS.set i (rowV w.heap.size x.length y.length i)) ((u.alloc (.cells (madeCells #[.int .i64 0] (y.length + 1)) 3)).setCell ⟨w.heap.size, i, none⟩ (rowV w.heap.size x.length y.length i)) := by
  have hsz : u.heap.size = rowB w.heap.size x.length i := by rw [h.size]; unfold rowB; omega
  obtain ⟨p1, g1⟩ := (h.top.alloc (.cells (madeCells #[.int .i64 0] (y.length + 1)) 3)).stored i (rowV w.heap.size x.length y.length i)
  refine ⟨?_, ?_, p1, fun k h1 h2 => ?_, fun k h1 h2 => ?_⟩
  · exact (h.low.alloc h.low.size _).grown g1 (by rw [World.size_alloc]; have := h.low.size; omega) (fun j hj => by cases hj; exact Nat.le_refl _)
  · rw [size_set, World.size_alloc, h.size]
    omega
  · by_cases e : k = i
    · subst e
      rw [List.getElem?_set_self (by rw [h.top_len]; omega)]
    · rw [List.getElem?_set_ne (fun q => e q.symm)]
      exact h.tops k (by omega) h2
  · by_cases e : k = i
    · subst e
      have hn := World.ownsRow_lit (base := w.heap.size) (e := 3) (size := 1) u (madeCells #[.int .i64 0] (y.length + 1)) (y.length + 1) h.low.size (by unfold maxLen; omega) (by rw [size_madeCells]; simp)
      rw [madeL, hsz] at hn
      refine ⟨_, hn.kept g1 (.inr (by simp [Value.ownBlock, rowB]; omega)), fun j hj hq => ?_⟩
      rw [List.getElem?_replicate, if_pos (by omega), ln_end x y k j (by omega)]
      rfl
    · obtain ⟨R, hR, hv⟩ := h.rows k (by omega) h2
      exact ⟨R, (hR.alloc _).kept g1 (.inr (by unfold rowV rowB; simp [Value.ownBlock]; omega)), fun j hj hq => hv j hj (by omega)⟩
theorem Tb.set (h : Tb w x y i (c + 1) TS u) (hi : i ≤ x.length) (hc : c ≤ y.length) (v : Int) (hv : v = ((ln x y i c : Nat) : Int)) : Tb w x y i c TS (u.setCell ⟨rowB w.heap.size x.length i, c, none⟩ (.int .i64 v)) := by
  subst hv
  obtain ⟨R, hR, hr⟩ := h.rows i (Nat.le_refl _) hi
  have hR' := hR
  unfold rowV at hR'
  obtain ⟨p1, g1⟩ := hR'.stored c (.int .i64 ((ln x y i c : Nat) : Int))
  have hl : R.length = y.length + 1 := by rw [hR.1, Nat.mul_one]
  refine ⟨?_, ?_, ?_, h.tops, fun k h1 h2 => ?_⟩
  · exact h.low.grown g1 h.low.size (fun j hj => by cases hj; unfold rowB; omega)
  · rw [size_set, h.size]
  · exact h.top.kept g1 (.inr (by simp [Value.ownBlock, rowB]; omega))
  · by_cases e : k = i
    · subst e
      refine ⟨_, p1, fun j hj hq => ?_⟩
      by_cases q : j = c
      · subst q
        rw [List.getElem?_set_self (by omega)]
      · rw [List.getElem?_set_ne (fun q' => q q'.symm)]
        exact hr j hj (by omega)
    · obtain ⟨R2, hR2, hv2⟩ := h.rows k h1 h2
      exact ⟨R2, hR2.kept g1 (.inr (by unfold rowV rowB; simp [Value.ownBlock]; omega)), fun j hj hq => hv2 j hj (by omega)⟩
end
theorem Tb.start (w : World) (x y : List Int) (hX : x.length ≤ 1048576) : Tb w x y (x.length + 1) 0 (List.replicate (x.length + 1) (.slice none 0 0)) (w.alloc (.cells (madeCells #[.slice none 0 0] (x.length + 1)) 55)) := by
  have hn := World.ownsRow_lit (base := w.heap.size) (e := 55) (size := 1) w (madeCells #[.slice none 0 0] (x.length + 1)) (x.length + 1) (Nat.le_refl _) (by unfold maxLen; omega) (by rw [size_madeCells]; simp)
  rw [madeL] at hn
  exact ⟨(Below.refl _ w).alloc (Nat.le_refl _) _, by simp, hn, fun k h1 h2 => by omega, fun k h1 h2 => by omega⟩
/-- what the table tells -/
structure Rd (B : Nat) (x y : List Int) (u : World) : Prop where
  lt : B + 1 + x.length < u.heap.size
  top : ∀ k, k ≤ x.length → u.cell? ⟨B, k, none⟩ = some (rowV B x.length y.length k)
  at' : ∀ k j, k ≤ x.length → j ≤ y.length → u.cell? ⟨rowB B x.length k, j, none⟩ = some (.int .i64 ((ln x y k j : Nat) : Int))
theorem cell_keep {u u' : World} (h : Below u.heap.size u u') {b o : Nat} {v : Value} (hb : b < u.heap.size) (hc : u.cell? ⟨b, o, none⟩ = some v) : u'.cell? ⟨b, o, none⟩ = some v := by
  rw [← hc]
  unfold World.cell?
  rw [h.block b hb]
theorem Rd.keep {B : Nat} {x y : List Int} {u u' : World} (h : Rd B x y u) (hb : Below u.heap.size u u') : Rd B x y u' := by
  have := h.lt
  refine ⟨Nat.lt_of_lt_of_le h.lt hb.size, fun k hk => cell_keep hb (by omega) (h.top k hk), fun k j hk hj => cell_keep hb ?_ (h.at' k j hk hj)⟩
  unfold rowB
  omega
theorem Tb.rd {w u : World} {x y : List Int} {TS : List Value} (h : Tb w x y 0 0 TS u) : Rd w.heap.size x y u :=
  ⟨by rw [h.size]; omega, fun _ hk => h.top_at (Nat.zero_le _) hk, fun _ _ hk hj => h.at (Nat.zero_le _) hk hj (.inr (.inl (Nat.zero_le _)))⟩

end Go.Proofs.YtnlbjknfahhfaaaGreatDoor

/- The longest rising row, by the reference: rises, Longest, walked. -/
set_option maxRecDepth 20000
namespace Go.Proofs.YtnlbjknfahhfaaaGreatDoor
open Go.RowKit

theorem rl_drop (l : List Pr) (k : Nat) : (rl l).drop k = rl (l.drop k) := by
  induction l generalizing k with
  | nil => simp [rl]
  | cons p t ih =>
    cases k with
    | zero => rfl
    | succ k => rw [rl, List.drop_succ_cons, List.drop_succ_cons, ih]
theorem rl_at (l : List Pr) (i : Nat) (hi : i < l.length) (hr : i < (rl l).length) : (rl l)[i] = mxl l[i] (l.drop (i + 1)) ((rl l).drop (i + 1)) + 1 := by
  have h := rl_drop l i
  rw [List.drop_eq_getElem_cons hi, rl, List.drop_eq_getElem_cons hr] at h
  have := (List.cons.inj h).1
  rw [this, rl_drop]
theorem rl_pos (l : List Pr) : ∀ n ∈ rl l, 0 < n := by
  induction l with
  | nil => simp [rl]
  | cons p t ih =>
    intro n hn
    rw [rl, List.mem_cons] at hn
    rcases hn with rfl | hn
    · omega
    · exact ih n hn
theorem mxl_le (p : Pr) (t : List Pr) (ns : List Nat) (N : Nat) (h : ∀ n ∈ ns, n ≤ N) : mxl p t ns ≤ N := by
  induction t generalizing ns with
  | nil => simp [mxl]
  | cons a t ih =>
    cases ns with
    | nil => simp [mxl]
    | cons n ns =>
      rw [mxl]
      have h1 := ih ns (fun m hm => h m (List.mem_cons_of_mem _ hm))
      have h2 := h n (List.mem_cons_self ..)
      split <;> omega
theorem rl_le (l : List Pr) : ∀ n ∈ rl l, n ≤ l.length := by
  induction l with
  | nil => simp [rl]
  | cons p t ih =>
    intro n hn
    rw [rl, List.mem_cons] at hn
    rw [List.length_cons]
    rcases hn with rfl | hn
    · have := mxl_le p t (rl t) t.length ih
      omega
    · have := ih n hn
      omega
theorem mxn_le (ns : List Nat) (N : Nat) (h : ∀ n ∈ ns, n ≤ N) : mxn ns ≤ N := by
  induction ns with
  | nil => simp [mxn]
  | cons n ns ih =>
    rw [mxn]
    have h1 := ih (fun m hm => h m (List.mem_cons_of_mem _ hm))
    have h2 := h n (List.mem_cons_self ..)
    omega
theorem pick_zero (last : Option Pr) (l : List Pr) (ns : List Nat) (h : ∀ n ∈ ns, 0 < n) : pick 0 last l ns = [] := by
  induction l generalizing ns last with
  | nil => simp [pick]
  | cons p l ih =>
    cases ns with
    | nil => simp [pick]
    | cons n ns =>
      have := h n (List.mem_cons_self ..)
      rw [pick, if_neg (by omega)]
      exact ih last ns (fun m hm => h m (List.mem_cons_of_mem _ hm))
theorem pick_length (left : Nat) (last : Option Pr) (l : List Pr) (ns : List Nat) : (pick left last l ns).length ≤ l.length := by
  induction l generalizing ns last left with
  | nil => simp [pick]
  | cons p l ih =>
    cases ns with
    | nil => simp [pick]
    | cons n ns =>
      rw [pick]
      split
      · have := ih (left - 1) (some p) ns
        simp only [List.length_cons]
        omega
      · have := ih left last ns
        simp only [List.length_cons]
        omega
theorem pick_step (left : Nat) (last : Option Pr) (l : List Pr) (R : List Nat) (i : Nat) (hi : i < l.length) (hr : i < R.length) : pick left last (l.drop i) (R.drop i) = if R[i] = left ∧ (∀ q, last = some q → ab l[i] q) then l[i] :: pick (left - 1) (some l[i]) (l.drop (i + 1)) (R.drop (i + 1)) else pick left last (l.drop (i + 1)) (R.drop (i + 1)) := by
  rw [List.drop_eq_getElem_cons hi, List.drop_eq_getElem_cons hr, pick]
theorem mxl_step (p : Pr) (l : List Pr) (R : List Nat) (i : Nat) (hi : i < l.length) (hr : i < R.length) : mxl p (l.drop i) (R.drop i) = if ab l[i] p then max R[i] (mxl p (l.drop (i + 1)) (R.drop (i + 1))) else mxl p (l.drop (i + 1)) (R.drop (i + 1)) := by
  rw [List.drop_eq_getElem_cons hi, List.drop_eq_getElem_cons hr, mxl]

/-- the lengths from k on stand there -/
def Dn (R : List Nat) (k : Nat) (Z : List Int) : Prop := Z.length = R.length ∧ ∀ j (hj : j < R.length), k ≤ j → Z[j]? = some ((R[j] : Nat) : Int)
theorem Dn.set {R : List Nat} {k : Nat} {Z : List Int} (h : Dn R (k + 1) Z) (hk : k < R.length) {m : Int} (hm : m = ((R[k] : Nat) : Int)) : Dn R k (Z.set k m) := by
  refine ⟨by rw [List.length_set]; exact h.1, fun j hj hkj => ?_⟩
  by_cases e : j = k
  · subst e
    rw [List.getElem?_set_self (by rw [h.1]; exact hj), hm]
  · rw [List.getElem?_set_ne (fun q => e q.symm)]
    exact h.2 j hj (by omega)
attribute [local simp] low_drew

end Go.Proofs.YtnlbjknfahhfaaaGreatDoor

/- A region that draws its order, in a round: seven operations that read and a call, in whatever order, then the rest as the text has it. -/
set_option maxRecDepth 20000
namespace Go.Proofs.YtnlbjknfahhfaaaGreatDoor
namespace R8
open Go.RowKit Go.Shelf

abbrev B8 := Fin 8 → Bool
def lst (b : B8) : Array Bool := #[b 0, b 1, b 2, b 3, b 4, b 5, b 6, b 7, false, false]
def upd (b : B8) (i : Fin 8) : B8 := fun j => if j = i then true else b j
def one (c : Bool) : Nat := if c then 1 else 0
def cnt (b : B8) : Nat := one (b 0) + one (b 1) + one (b 2) + one (b 3) + one (b 4) + one (b 5) + one (b 6) + one (b 7)
theorem lst_upd (b : B8) (i : Fin 8) : (lst b).setIfInBounds i.1 true = lst (upd b i) := by
  rcases i with ⟨i, hi⟩
  rcases (by omega : i = 0 ∨ i = 1 ∨ i = 2 ∨ i = 3 ∨ i = 4 ∨ i = 5 ∨ i = 6 ∨ i = 7) with rfl | rfl | rfl | rfl | rfl | rfl | rfl | rfl <;> simp [lst, upd]
theorem cnt_upd (b : B8) (i : Fin 8) (h : b i = false) : cnt (upd b i) = cnt b + 1 := by
  rcases i with ⟨i, hi⟩
  rcases (by omega : i = 0 ∨ i = 1 ∨ i = 2 ∨ i = 3 ∨ i = 4 ∨ i = 5 ∨ i = 6 ∨ i = 7) with rfl | rfl | rfl | rfl | rfl | rfl | rfl | rfl <;> (simp only [Fin.isValue, Fin.mk_zero, Fin.mk_one, Fin.reduceFinMk] at h; simp [cnt, upd, one, h]; try omega)
theorem one_le (c : Bool) : one c ≤ 1 := by cases c <;> simp [one]
theorem cnt_le (b : B8) : cnt b ≤ 8 := by
  have := fun i => one_le (b i)
  have h0 := this 0; have h1 := this 1; have h2 := this 2; have h3 := this 3; have h4 := this 4; have h5 := this 5; have h6 := this 6; have h7 := this 7
  unfold cnt
  omega
/-- which must lie ahead of one -/
def deps : Fin 8 → List (Fin 8)
  | 4 => [2, 3]
  | 5 => [4]
  | 7 => [5, 6]
  | _ => []
def closedB (b : B8) : Bool := (List.finRange 8).all fun i => !(b i) || (deps i).all b
theorem closed_upd (b : B8) (i : Fin 8) (h : closedB b = true) (hd : ∀ j ∈ deps i, b j = true) : closedB (upd b i) = true := by
  simp only [closedB, List.all_eq_true, List.mem_finRange, Bool.or_eq_true, Bool.not_eq_true', forall_const] at h ⊢
  intro k
  have hup : ∀ j, b j = true → upd b i j = true := fun j hj => by unfold upd; split <;> simp_all
  by_cases hk : k = i
  · exact .inr fun j hj => hup j (hd j (hk ▸ hj))
  · rcases h k with h1 | h1
    · left
      unfold upd
      rw [if_neg hk]
      exact h1
    · exact .inr fun j hj => hup j (h1 j hj)
theorem closed_at (b : B8) (h : closedB b = true) (i : Fin 8) (hi : b i = true) : ∀ j ∈ deps i, b j = true := by
  simp only [closedB, List.all_eq_true, List.mem_finRange, Bool.or_eq_true, Bool.not_eq_true', forall_const] at h
  rcases h i with h1 | h1
  · rw [hi] at h1; cases h1
  · exact h1
/-- behind the call only the first two may still come -/
theorem closed_call (b : B8) (h : closedB b = true) (h7 : b 7 = true) : b 2 = true ∧ b 3 = true ∧ b 4 = true ∧ b 5 = true ∧ b 6 = true := by
  have h5 := closed_at b h 7 h7 5 (by simp [deps])
  have h6 := closed_at b h 7 h7 6 (by simp [deps])
  have h4 := closed_at b h 5 h5 4 (by simp [deps])
  exact ⟨closed_at b h 4 h4 2 (by simp [deps]), closed_at b h 4 h4 3 (by simp [deps]), h4, h5, h6⟩
def chkReady (ops : Array Oper) (b : B8) : Bool :=
  !(closedB b) || !(Region.ready .any ops (lst b)).isEmpty && (Region.ready .any ops (lst b)).all fun i =>
    if h : i < 8 then !(b ⟨i, h⟩) && (deps ⟨i, h⟩).all b else i == 8 && (List.finRange 8).all b

theorem any8 {F : Fence} {n : Nat} {P : Program} {ops : Array Oper} {Q : Exit → Act → World → Prop} {w : World} (act : B8 → Value → Act) (Post : Value → World → Prop)
    (hr : ∀ b, chkReady ops b = true)
    (hstep : ∀ (b : B8) (i : Fin 8), i ≠ 7 → b i = false → (∀ j ∈ deps i, b j = true) → closedB b = true → ∀ v u, ((b 7 = false ∧ u = w) ∨ (b 7 = true ∧ Post v u)) → ∀ K : Act → World → Prop, K (act (upd b i) v) u → wpOpIn F n P ops Q i.1 K (act b v) u)
    (hcall : ∀ (b : B8) v, b 7 = false → b 5 = true → b 6 = true → ∀ K : Act → World → Prop, (∀ v' u, Post v' u → K (act (upd b 7) v') u) → wpOpIn F n P ops Q 7 K (act b v) w)
    (hfin : ∀ v u, Post v u → wpOpIn F n P ops Q 8 (wpAnyIn F n P .any ops Q 1 #[true, true, true, true, true, true, true, true, true, false]) (act (fun _ => true) v) u) (v0 : Value) :
    wpAnyIn F n P .any ops Q 10 (lst fun _ => false) (act (fun _ => false) v0) w := by
  have main : ∀ (fuel : Nat) (b : B8) (v : Value) (u : World), closedB b = true → fuel + cnt b = 10 → ((b 7 = false ∧ u = w) ∨ (b 7 = true ∧ Post v u)) → wpAnyIn F n P .any ops Q fuel (lst b) (act b v) u := by
    intro fuel
    induction fuel with
    | zero => intro b _ _ _ h; have := cnt_le b; omega
    | succ f ih =>
      intro b v u hcl h hst
      have hb := hr b
      unfold chkReady at hb
      rw [hcl] at hb
      simp only [Bool.not_true, Bool.false_or] at hb
      simp only [Bool.and_eq_true, List.all_eq_true] at hb
      refine ⟨fun h0 => ?_, fun i hi => ?_⟩
      · rw [h0] at hb
        simp at hb
      · have h1 := hb.2 i hi
        split at h1
        · rename_i hlt
          simp only [Bool.and_eq_true, Bool.not_eq_true', List.all_eq_true] at h1
          have e := lst_upd b ⟨i, hlt⟩
          dsimp only at e
          by_cases h7 : i = 7
          · subst h7
            rcases hst with ⟨q1, rfl⟩ | ⟨q1, _⟩
            · refine hcall b v q1 (h1.2 5 (by simp [deps])) (h1.2 6 (by simp [deps])) _ (fun v' u' hp => ?_)
              rw [e]
              exact ih _ v' u' (closed_upd b 7 hcl h1.2) (by have := cnt_upd b ⟨7, hlt⟩ q1; omega) (.inr ⟨by simp [upd], hp⟩)
            · have := h1.1
              rw [show (⟨7, hlt⟩ : Fin 8) = 7 from rfl, q1] at this
              cases this
          · refine hstep b ⟨i, hlt⟩ (fun q => h7 (congrArg Fin.val q)) h1.1 h1.2 hcl v u hst _ ?_
            rw [e]
            refine ih _ v u (closed_upd b ⟨i, hlt⟩ hcl h1.2) (by rw [cnt_upd b ⟨i, hlt⟩ h1.1]; omega) ?_
            have hne : (7 : Fin 8) ≠ ⟨i, hlt⟩ := fun q => h7 (congrArg Fin.val q).symm
            have hu : upd b ⟨i, hlt⟩ 7 = b 7 := by unfold upd; rw [if_neg hne]
            rw [hu]
            exact hst
        · simp only [Bool.and_eq_true, beq_iff_eq, List.all_eq_true, List.mem_finRange, forall_const] at h1
          obtain ⟨rfl, hall⟩ := h1
          obtain rfl : b = fun _ => true := funext hall
          obtain rfl : f = 1 := by
            have : cnt (fun _ => true) = 8 := rfl
            omega
          rcases hst with ⟨q1, _⟩ | ⟨_, hp⟩
          · cases q1
          · exact hfin v u hp
  exact main 10 _ v0 w rfl rfl (.inl ⟨rfl, rfl⟩)
/-- a slot that an operation has written, or not yet -/
def pk (c : Bool) (v : Value) : Value := cond c v undef
theorem pk_true {c : Bool} (h : c = true) (v : Value) : pk c v = v := by rw [h]; rfl
theorem wpOpIn_yield {F : Fence} {n : Nat} {P : Program} {ops : Array Oper} {Q : Exit → Act → World → Prop} {i : Nat} {o : Oper} {K : Act → World → Prop} {a : Act} {w : World} {v : Value} (ho : ops[i]? = some o) (hg : o.guard = none) (hnd : ∀ c, o.op ≠ .defer c)
    (hab : o.about P w a.eval = none) (hrun : (execOp a.eval o).run P w = .ok (.value v) w) (hK : K (a.put o.dst v) w) : wpOpIn F n P ops Q i K a w := by
  unfold wpOpIn
  simp only [ho]
  have hw : Region.wanted o (yielded ops a.tmps) = true := by simp [Region.wanted, hg]
  rw [if_pos hw]
  refine ⟨fun f hf => (by rw [hab] at hf; cases hf), ?_⟩
  rw [Oper.semAt_plain F _ _ hnd, hrun]
  exact hK
def mk8 (b0 b1 b2 b3 b4 b5 b6 b7 : Bool) : B8 := fun i => match i with
  | 0 => b0 | 1 => b1 | 2 => b2 | 3 => b3 | 4 => b4 | 5 => b5 | 6 => b6 | 7 => b7
theorem mk8_eta (b : B8) : b = mk8 (b 0) (b 1) (b 2) (b 3) (b 4) (b 5) (b 6) (b 7) := by
  funext ⟨i, hi⟩
  rcases (by omega : i = 0 ∨ i = 1 ∨ i = 2 ∨ i = 3 ∨ i = 4 ∨ i = 5 ∨ i = 6 ∨ i = 7) with rfl | rfl | rfl | rfl | rfl | rfl | rfl | rfl <;> rfl
theorem chk_all {ops : Array Oper} (h : ∀ b0 b1 b2 b3 b4 b5 b6 b7 : Bool, chkReady ops (mk8 b0 b1 b2 b3 b4 b5 b6 b7) = true) (b : B8) : chkReady ops b = true := by
  rw [mk8_eta b]
  exact h _ _ _ _ _ _ _ _
end R8
end Go.Proofs.YtnlbjknfahhfaaaGreatDoor

/- What stands in memory while the lengths of rising rows are found; what a step of a round keeps. -/
set_option maxRecDepth 20000
namespace Go.Proofs.YtnlbjknfahhfaaaGreatDoor
open Go.RowKit Go.Shelf
attribute [local go_sem] Oper.semAt_some

theorem infoHd : (Tryz.prog.info? 241).map (fun i => (i.zero, i.size, i.bytes)) = some (some (.slice none 0 0), 1, 24) := by kernel_rfl
/-- the lengths, as they are written from the end on: the latest first -/
def lz (n : Nat) : List (Nat × Pr) → List Int
  | [] => List.replicate n 0
  | x :: r => (lz n r).set x.1 ((mxl x.2 (r.map (·.2)) (rl (r.map (·.2))) + 1 : Nat) : Int)
theorem lz_length (n : Nat) (r : List (Nat × Pr)) : (lz n r).length = n := by
  induction r with
  | nil => simp [lz]
  | cons x r ih => simp [lz, ih]
theorem lz_en (n k : Nat) (l : List Pr) (hk : k + l.length = n) : ∀ j (hj : j < (rl l).length), (lz n (en k l))[k + j]? = some (((rl l)[j] : Nat) : Int) := by
  induction l generalizing k with
  | nil => intro j hj; simp [rl] at hj
  | cons p t ih =>
    intro j hj
    have hl := lz_length n (en (k + 1) t)
    have e : lz n (en k (p :: t)) = (lz n (en (k + 1) t)).set k ((mxl p t (rl t) + 1 : Nat) : Int) := by rw [en, lz, en_snd]
    rw [e]
    cases j with
    | zero =>
      have hk2 : k < (lz n (en (k + 1) t)).length := by rw [hl]; simp at hk; omega
      show ((lz n (en (k + 1) t)).set k ((mxl p t (rl t) + 1 : Nat) : Int))[k]? = _
      rw [List.getElem?_set_self hk2]
      rfl
    | succ j =>
      rw [List.getElem?_set_ne (by omega), show k + (j + 1) = k + 1 + j by omega]
      have := ih (k + 1) (by simp at hk; omega) j (by simpa [rl] using hj)
      simpa [rl] using this
theorem lz_all (l : List Pr) : lz l.length (en 0 l) = (rl l).map (fun (n : Nat) => (n : Int)) := by
  apply List.ext_getElem?
  intro j
  by_cases hj : j < (rl l).length
  · have := lz_en l.length 0 l (by omega) j hj
    rw [Nat.zero_add] at this
    rw [this]
    simp [hj]
  · rw [List.getElem?_eq_none (by rw [lz_length]; rw [rl_length] at hj; omega), List.getElem?_eq_none (by simpa using hj)]
/-- the state behind a round -/
structure Rs (w : World) (n : Nat) (r : List (Nat × Pr)) (va : Value) (vals : List Value) (H : List (List Pr)) (W : World) : Prop where
  low : Below w.heap.size w W
  lbox : Boxed W (w.heap.size + 1) 55 (.slice (some ⟨w.heap.size, 0, none⟩) n n)
  lrow : W.ownsRow w.heap.size 3 1 (.slice (some ⟨w.heap.size, 0, none⟩) n n) n (icells (lz n r))
  abox : Boxed W (w.heap.size + 1 + 1) 236 va
  al : Al W w.heap.size va vals H
  hd : Hds (r.map (·.2)) H
  hl : H.length ≤ r.length
  hh : ∀ h ∈ H, h.length ≤ r.length
theorem owns_kept_cells {W W' : World} {row : Option Nat} {base n : Nat} {e : TypeId} {s : Nat} {v : Value} {xs : List Value} (ho : W.ownsRow base e s v n xs) (hg : W.grownBy W' row) (hr : ∀ r, row = some r → ∃ o : Obj, W.heap[r]? = some o ∧ o.isCells = false) : W'.ownsRow base e s v n xs := by
  refine ho.kept hg ?_
  cases h : v.ownBlock with
  | none => exact .inl rfl
  | some g =>
    right
    intro q
    obtain ⟨cur, h1, _⟩ := owns_cells ho h
    obtain ⟨o, h2, h3⟩ := hr g q.symm
    rw [h1] at h2
    cases h2
    cases h3
theorem boxed_kept_cells {W W' : World} {row : Option Nat} {B : Nat} {t : TypeId} {v : Value} (h : Boxed W B t v) (hg : W.grownBy W' row) (hr : ∀ r, row = some r → ∃ o : Obj, W.heap[r]? = some o ∧ o.isCells = false) : Boxed W' B t v := by
  refine h.kept hg (fun q => ?_)
  obtain ⟨o, h2, h3⟩ := hr B q.symm
  unfold Boxed at h
  rw [h] at h2
  cases h2
  cases h3
theorem Rs.own {w : World} {n : Nat} {r : List (Nat × Pr)} {va : Value} {vals : List Value} {H : List (List Pr)} {W W' : World} (h : Rs w n r va vals H W) {row : Option Nat} (hg : W.grownBy W' row) (hr : ∀ r, row = some r → w.heap.size ≤ r ∧ ∃ o : Obj, W.heap[r]? = some o ∧ o.isCells = false) : Rs w n r va vals H W' :=
  ⟨h.low.grown hg h.low.size (fun j hj => (hr j hj).1), boxed_kept_cells h.lbox hg (fun r e => (hr r e).2), owns_kept_cells h.lrow hg (fun r e => (hr r e).2), boxed_kept_cells h.abox hg (fun r e => (hr r e).2),
    ⟨owns_kept_cells h.al.row hg (fun r e => (hr r e).2), h.al.len, fun m v k h1 h2 => owns_kept_cells (h.al.own m v k h1 h2) hg (fun r e => (hr r e).2), h.al.apart⟩, h.hd, h.hl, h.hh⟩
theorem Rs.keep {w : World} {n : Nat} {r : List (Nat × Pr)} {va : Value} {vals : List Value} {H : List (List Pr)} {W W' : World} (h : Rs w n r va vals H W) (hb : Low W W') : Rs w n r va vals H W' :=
  h.own (low_grown hb none) (fun r e => by cases e)

/-- whatever is written lies in a block of this kind -/
def Ty (W : World) (row : Option Nat) (e : TypeId) : Prop := ∀ g, row = some g → ∃ cur, W.heap[g]? = some (.cells cur e (0, 0))
theorem ty_row {W : World} {base n : Nat} {e : TypeId} {s : Nat} {v : Value} {xs : List Value} (ho : W.ownsRow base e s v n xs) : Ty W v.ownBlock e := fun g hg => by
  obtain ⟨cur, h, _⟩ := owns_cells ho hg
  exact ⟨cur, h⟩
section
variable {W W' : World} {row : Option Nat} {e : TypeId}
theorem bx_ty {B : Nat} {t : TypeId} {v : Value} (h : Boxed W B t v) (hg : W.grownBy W' row) (hy : Ty W row e) (hne : t ≠ e) : Boxed W' B t v := by
  refine h.kept hg (fun q => ?_)
  obtain ⟨cur, h2⟩ := hy B q.symm
  unfold Boxed at h
  rw [h] at h2
  cases h2
  exact hne rfl
theorem ow_ty {base n : Nat} {t : TypeId} {s : Nat} {v : Value} {xs : List Value} (h : W.ownsRow base t s v n xs) (hg : W.grownBy W' row) (hy : Ty W row e) (hne : t ≠ e) : W'.ownsRow base t s v n xs := by
  refine h.kept hg ?_
  cases hb : v.ownBlock with
  | none => exact .inl rfl
  | some g =>
    right
    intro q
    obtain ⟨cur, h1, _⟩ := owns_cells h hb
    obtain ⟨cur', h2⟩ := hy g q.symm
    rw [h1] at h2
    cases h2
    exact hne rfl
theorem al_ty {base : Nat} {va : Value} {vals : List Value} {H : List (List Pr)} (h : Al W base va vals H) (hg : W.grownBy W' row) (hy : Ty W row e) (h1 : 241 ≠ e) (h2 : 189 ≠ e) : Al W' base va vals H :=
  ⟨ow_ty h.row hg hy h1, h.len, fun n v k a b => ow_ty (h.own n v k a b) hg hy h2, h.apart⟩
theorem ko_ty (hg : W.grownBy W' row) (hy : Ty W row e) : KeepsOthers W W' := KeepsOthers.of_grownBy hg (fun j o ej hj => by
  obtain ⟨cur, h⟩ := hy j ej
  rw [h] at hj
  cases hj
  rfl)
theorem kq_ty {n₀ lo : Nat} {v : Value} (hb : Boxed W lo 185 v) (hn : n₀ ≤ W.heap.size) (hg : W.grownBy W' row) (hy : Ty W row e) (hne : 185 ≠ e) (hge : ∀ g, row = some g → n₀ ≤ g) : Kq n₀ lo W W' :=
  ⟨(Below.refl n₀ W).grown hg hn (fun j ej => hge j ej), (bx_ty hb hg hy hne).trans hb.symm⟩
end
theorem ko_low {W W' : World} (h : Low W W') : KeepsOthers W W' := ⟨Below.size h, fun k _ hk _ => (Below.block h k (Array.getElem?_eq_some_iff.1 hk).1).trans hk⟩
theorem kq_low {n₀ lo : Nat} {W W' : World} (hn : n₀ ≤ W.heap.size) (hl : lo < W.heap.size) (h : Low W W') : Kq n₀ lo W W' := ⟨Below.mono h hn, Below.block h lo hl⟩
theorem mxl_hd {t : List Pr} {H : List (List Pr)} (h : Hds t H) (p : Pr) : (∀ m, m < mxl p t (rl t) → Hd t m p) ∧ ¬ Hd t (mxl p t (rl t)) p ∧ mxl p t (rl t) ≤ H.length := by
  refine ⟨fun m hm => ?_, ?_, mxl_le p t (rl t) H.length h.top⟩
  · obtain ⟨k, q, g1, g2, g3⟩ := mxl_at p t (rl t) (by omega)
    have : Hd t (mxl p t (rl t) - 1) p := ⟨k, q, g1, by rw [g2]; congr 1; omega, g3⟩
    exact this.downs (by omega)
  · rintro ⟨k, q, g1, g2, g3⟩
    have := mxl_ge p t (rl t) k q _ g1 g2 g3
    omega
theorem ins_len (h : List Pr) (p : Pr) (hug : upto h p.X ≤ grt h p.Y) : (ins h p).length ≤ h.length + 1 := by
  unfold ins
  rw [List.length_append, List.length_cons, List.length_take, List.length_drop]
  have := upto_le h p.X
  omega

/-- the state within a round -/
structure Rp (w : World) (n : Nat) (Z : List Int) (va : Value) (vals : List Value) (H : List (List Pr)) (vl : Value) (W : World) : Prop where
  low : Below w.heap.size w W
  lbox : Boxed W (w.heap.size + 1) 55 (.slice (some ⟨w.heap.size, 0, none⟩) n n)
  lrow : W.ownsRow w.heap.size 3 1 (.slice (some ⟨w.heap.size, 0, none⟩) n n) n (icells Z)
  abox : Boxed W (w.heap.size + 1 + 1) 236 va
  al : Al W w.heap.size va vals H
  ibox : Boxed W (w.heap.size + 1 + 1 + 1) 185 vl
/-- what a step of a round keeps -/
structure Stp (w W W' : World) : Prop where
  ko : KeepsOthers W W'
  kq : Kq w.heap.size (w.heap.size + 1 + 1 + 1) W W'
theorem Stp.trans {w A B C : World} (h : Stp w A B) (k : Stp w B C) : Stp w A C := ⟨h.ko.trans k.ko, h.kq.trans k.kq⟩
section
variable {w : World} {n : Nat} {Z : List Int} {va : Value} {vals : List Value} {H : List (List Pr)} {vl : Value} {W W' : World}
theorem Rp.lo (h : Rp w n Z va vals H vl W) (hb : Low W W') : Rp w n Z va vals H vl W' ∧ Stp w W W' := by
  have hg := low_grown hb none
  have hy : ∀ e, Ty W none e := fun e g q => by cases q
  have h3 := h.ibox.lt
  exact ⟨⟨h.low.trans (Below.mono hb h.low.size), bx_ty h.lbox hg (hy 0) (by decide), ow_ty h.lrow hg (hy 0) (by decide), bx_ty h.abox hg (hy 0) (by decide), al_ty h.al hg (hy 0) (by decide) (by decide), bx_ty h.ibox hg (hy 0) (by decide)⟩, ko_low hb, kq_low h.low.size h3 hb⟩
/-- one list of heads is put in its place -/
theorem Rp.put {g k c m : Nat} {v1 v' : Value} {L : List Pr} {W4 : World} (h : Rp w n Z (.slice (some ⟨g, 0, none⟩) k c) vals H vl W) (hO : W.ownsRow w.heap.size 189 2 v1 (H[m]?.getD []).length (prcells (H[m]?.getD []))) (hv : vals[m]? = some v1) (hG : Grows w.heap.size W v1 v' L W4) :
    Rp w n Z (.slice (some ⟨g, 0, none⟩) k c) (vals.set m v') (H.set m L) vl (W4.setCell ⟨g, m, none⟩ v') ∧ Stp w W (W4.setCell ⟨g, m, none⟩ v') := by
  obtain ⟨g1, g2, g3⟩ := hG
  have y1 : Ty W v1.ownBlock 189 := ty_row hO
  have r4 := ow_ty h.al.row g2 y1 (by decide)
  have y2 : Ty W4 (some g) 241 := ty_row (v := .slice (some ⟨g, 0, none⟩) k c) r4
  have g5 : W4.grownBy (W4.setCell ⟨g, m, none⟩ v') (some g) := by
    rcases r4.2 with ⟨q, _⟩ | ⟨g', cap, cur, q, _⟩
    · cases q
    · cases q
      exact (r4.stored m v').2
  have i4 := bx_ty h.ibox g2 y1 (by decide)
  have hb1 : ∀ q, v1.ownBlock = some q → w.heap.size ≤ q := fun q hq => (owns_cells hO hq).choose_spec.2
  have hb2 : ∀ q, some g = some q → w.heap.size ≤ q := fun q hq => (owns_cells r4 (by rw [← hq]; rfl)).choose_spec.2
  have s4 := h.low.size
  have k1 := kq_ty h.ibox s4 g2 y1 (by decide) hb1
  have s5 : w.heap.size ≤ W4.heap.size := Nat.le_trans s4 g2.size
  have k2 := kq_ty i4 s5 g5 y2 (by decide) hb2
  refine ⟨⟨h.low.trans (k1.trans k2).low, bx_ty (bx_ty h.lbox g2 y1 (by decide)) g5 y2 (by decide), ow_ty (ow_ty h.lrow g2 y1 (by decide)) g5 y2 (by decide), bx_ty (bx_ty h.abox g2 y1 (by decide)) g5 y2 (by decide), h.al.set hv ⟨g1, g2, g3⟩, bx_ty i4 g5 y2 (by decide)⟩, (ko_ty g2 y1).trans (ko_ty g5 y2), k1.trans k2⟩
/-- a length is written -/
theorem Rp.write (h : Rp w n Z va vals H vl W) (i : Nat) (z : Int) : Rp w n (Z.set i z) va vals H vl (W.setCell ⟨w.heap.size, i, none⟩ (.int .i64 z)) ∧ Stp w W (W.setCell ⟨w.heap.size, i, none⟩ (.int .i64 z)) := by
  obtain ⟨p1, g1⟩ := h.lrow.stored i (.int .i64 z)
  have e : (icells Z).set i (.int .i64 z) = icells (Z.set i z) := by simp [icells, List.map_set]
  rw [e] at p1
  have y1 : Ty W (some w.heap.size) 3 := ty_row (v := .slice (some ⟨w.heap.size, 0, none⟩) n n) h.lrow
  have k1 := kq_ty h.ibox h.low.size g1 y1 (by decide) (fun q hq => by cases hq; exact Nat.le_refl _)
  exact ⟨⟨h.low.trans k1.low, bx_ty h.lbox g1 y1 (by decide), p1, bx_ty h.abox g1 y1 (by decide), al_ty h.al g1 y1 (by decide) (by decide), bx_ty h.ibox g1 y1 (by decide)⟩, ko_ty g1 y1, k1⟩
/-- one more list of heads, in its variable -/
theorem Rp.more {va' : Value} {w1 : World} (h : Rp w n Z va vals H vl W) (hO : w1.ownsRow w.heap.size 241 1 va' (vals.length + 1) (vals ++ [.slice none 0 0])) (hg : W.grownBy w1 va.ownBlock) :
    Rp w n Z va' (vals ++ [.slice none 0 0]) (H ++ [[]]) vl (w1.setCell ⟨w.heap.size + 1 + 1, 0, none⟩ va') ∧ Stp w W (w1.setCell ⟨w.heap.size + 1 + 1, 0, none⟩ va') := by
  have y1 : Ty W va.ownBlock 241 := ty_row h.al.row
  have a1 := bx_ty h.abox hg y1 (by decide)
  have y2 : Ty w1 (some (w.heap.size + 1 + 1)) 236 := fun q hq => by cases hq; exact ⟨_, a1⟩
  have g2 := grownBy_setCell' w1 (w.heap.size + 1 + 1) va'
  have i1 := bx_ty h.ibox hg y1 (by decide)
  have s1 := h.low.size
  have k1 := kq_ty h.ibox s1 hg y1 (by decide) (fun q hq => (owns_cells h.al.row hq).choose_spec.2)
  have k2 := kq_ty i1 (Nat.le_trans s1 hg.size) g2 y2 (by decide) (fun q hq => by cases hq; omega)
  exact ⟨⟨h.low.trans (k1.trans k2).low, bx_ty (bx_ty h.lbox hg y1 (by decide)) g2 y2 (by decide), ow_ty (ow_ty h.lrow hg y1 (by decide)) g2 y2 (by decide), a1.set va', al_ty (h.al.more hO hg) g2 y2 (by decide) (by decide), bx_ty i1 g2 y2 (by decide)⟩, (ko_ty hg y1).trans (ko_ty g2 y2), k1.trans k2⟩
end

end Go.Proofs.YtnlbjknfahhfaaaGreatDoor

/- A pair is put among the heads of its length: the region that draws its order, in a round. -/
set_option maxRecDepth 20000
namespace Go.Proofs.YtnlbjknfahhfaaaGreatDoor
open Go.RowKit Go.Shelf
attribute [local go_sem] Oper.semAt_some

theorem R8.wpOpIn_call {F : Fence} {m : Nat} {P : Program} {ops : Array Oper} {Q : Exit → Act → World → Prop} {i : Nat} {o : Oper} {K : Act → World → Prop} {a : Act} {w : World} {f : FuncId} {args : Array Value} (ho : ops[i]? = some o) (hg : o.guard = none) (hnd : ∀ c, o.op ≠ .defer c)
    (hab : ∀ f, F.fn f) (hdp : F.depth = none) (hrun : (execOp a.eval o).run P w = .ok (.enter f args) w) {R : Value → World → Prop} (hc : CallsIn F (m - 1) P f args w fun e w' => ∃ v', e = .returned v' ∧ R v' w') (hK : ∀ v' u, R v' u → K (a.put o.dst v') u) : wpOpIn F m P ops Q i K a w := by
  unfold wpOpIn
  simp only [ho]
  have hw : Region.wanted o (yielded ops a.tmps) = true := by simp [Region.wanted, hg]
  rw [if_pos hw]
  refine ⟨fun f _ => hab f, ?_⟩
  rw [Oper.semAt_plain F _ _ hnd, hrun, Oper.uponIn_enter]
  refine ⟨fun h => (by rw [hdp] at h; cases h), hc.mono ?_⟩
  rintro e w' ⟨v', rfl, h⟩
  exact hK v' w' h
/-- a cell of a row, and it may be written -/
theorem row_cell {W : World} {base g k c m : Nat} {e : TypeId} {xs : List Value} (h : W.ownsRow base e 1 (.slice (some ⟨g, 0, none⟩) k c) m xs) {n : Nat} {v : Value} (hv : xs[n]? = some v) : W.cell? ⟨g, n, none⟩ = some v ∧ W.frozen? ⟨g, n, none⟩ = false := by
  have hn := (List.getElem?_eq_some_iff.1 hv).1
  obtain rfl : k = m := by
    rcases h.2 with ⟨h1, _⟩ | ⟨g', cap, cur, q1, _⟩
    · cases h1
    · cases q1; rfl
  have hl := h.1
  refine ⟨by rw [h.cellAt n (by omega), hv], h.frozenAt n⟩

set_option maxRecDepth 100000 in
set_option maxHeartbeats 4000000 in
theorem put_region {lp m : Nat} {Q : Exit → Act → World → Prop} {s0 s1 s2 s3 s5 s8 s9 s10 s11 s12 s13 s14 s15 s16 s17 s18 s19 s20 s21 s22 s23 s24 s25 : Value} (w : World) (N : Nat) (Z : List Int) (vl : Value) (vals : List Value) (H : List (List Pr)) (B4 Bx n g k c : Nat) (X Y : Int) (U : World) (v1 : Value) (h L : List Pr)
    (hB4 : B4 = w.heap.size + 1 + 1) (hP : Rp w N Z (.slice (some ⟨g, 0, none⟩) k c) vals H vl U) (hnk : n < k) (_hkl : k ≤ 2097152) (hv : vals[n]? = some v1)
    (cX : U.cell? ⟨Bx, 0, none⟩ = some (.int .i64 X)) (cY : U.cell? ⟨Bx, 1, none⟩ = some (.int .i64 Y))
    (hO : U.ownsRow w.heap.size 189 2 v1 h.length (prcells h)) (hs : Hid (Stair h)) (hn : Hid (¬ ∃ a ∈ h, ab a ⟨X, Y⟩)) (hl : h.length ≤ 1048576) (hL : Hid (ins h ⟨X, Y⟩ = L))
    (hQ : ∀ v' u, Grows w.heap.size U v1 v' L u → Q .normal { tmps := #[s0, s1, s2, s3, .pointer (some ⟨B4, 0, none⟩), s5, .pointer (some ⟨Bx, 0, none⟩), .int .i64 (n : Int), s8, s9, s10, s11, s12, s13, s14, s15, s16, s17, s18, s19, s20, s21, s22, s23, s24, s25, (.slice (some ⟨g, 0, none⟩) k c), (.int .i64 (n : Int)), (.slice (some ⟨g, 0, none⟩) k c), (.int .i64 (n : Int)), (.pointer (some ⟨g, n, none⟩)), v1, (prV ⟨X, Y⟩), v', .pointer (some ⟨g, n, none⟩), undef, undef, undef, undef, undef, undef], defers := [] } (u.setCell ⟨g, n, none⟩ v')) :
    Code.wpIn (Fence.wide.inRound lp) m Tryz.prog (Code.region 9 #[{ dst := some 26, op := Op.load 236 (Operand.tmp 4), type := 236, pos := "rising.go:40", after := #[], guard := none }, { dst := some 27, op := Op.move (Operand.tmp 7), type := 3, pos := "rising.go:40", after := #[], guard := none }, { dst := some 28, op := Op.load 236 (Operand.tmp 4), type := 236, pos := "rising.go:40", after := #[], guard := none }, { dst := some 29, op := Op.move (Operand.tmp 7), type := 3, pos := "rising.go:40", after := #[], guard := none }, { dst := some 30, op := Op.indexAddr 236 (Operand.tmp 28) (Operand.tmp 29), type := 0, pos := "rising.go:40", after := #[{ on := 2, ground := Ground.data }, { on := 3, ground := Ground.data }], guard := none }, { dst := some 31, op := Op.load 241 (Operand.tmp 30), type := 241, pos := "rising.go:40", after := #[{ on := 4, ground := Ground.data }], guard := none }, { dst := some 32, op := Op.load 189 (Operand.tmp 6), type := 189, pos := "rising.go:40", after := #[], guard := none }, { dst := some 33, op := Op.call { callee := Callee.value (Operand.func 141), args := #[Operand.tmp 31, Operand.tmp 32], argTypes := #[241, 189] }, type := 241, pos := "rising.go:40", after := #[{ on := 5, ground := Ground.data }, { on := 6, ground := Ground.data }], guard := none }, { dst := some 34, op := Op.indexAddr 236 (Operand.tmp 26) (Operand.tmp 27), type := 0, pos := "rising.go:40", after := #[{ on := 0, ground := Ground.data }, { on := 1, ground := Ground.data }, { on := 0, ground := Ground.phase }, { on := 1, ground := Ground.phase }, { on := 2, ground := Ground.phase }, { on := 3, ground := Ground.phase }, { on := 4, ground := Ground.phase }, { on := 5, ground := Ground.phase }, { on := 6, ground := Ground.phase }, { on := 7, ground := Ground.phase }], guard := none }, { dst := none, op := Op.store 241 (Operand.tmp 34) (Operand.tmp 33), type := 0, pos := "rising.go:40", after := #[{ on := 8, ground := Ground.data }, { on := 7, ground := Ground.data }, { on := 7, ground := Ground.chain }, { on := 0, ground := Ground.phase }, { on := 1, ground := Ground.phase }, { on := 2, ground := Ground.phase }, { on := 3, ground := Ground.phase }, { on := 4, ground := Ground.phase }, { on := 5, ground := Ground.phase }, { on := 6, ground := Ground.phase }, { on := 7, ground := Ground.phase }], guard := none }] true) Q { tmps := #[s0, s1, s2, s3, .pointer (some ⟨B4, 0, none⟩), s5, .pointer (some ⟨Bx, 0, none⟩), .int .i64 (n : Int), s8, s9, s10, s11, s12, s13, s14, s15, s16, s17, s18, s19, s20, s21, s22, s23, s24, s25, undef, undef, undef, undef, undef, undef, undef, undef, undef, undef, undef, undef, undef, undef, undef], defers := [] } U := by
  subst hB4
  have cA := hP.abox.cell
  obtain ⟨cv, fv⟩ := row_cell hP.al.row hv
  have hOd : U.drew.ownsRow w.heap.size 189 2 v1 h.length (prcells h) := hO
  have hbU : w.heap.size ≤ U.drew.heap.size := hP.low.size
  have y1 : Ty U.drew v1.ownBlock 189 := ty_row hOd
  obtain ⟨B4, hB4⟩ : ∃ B4, w.heap.size + 1 + 1 = B4 := ⟨_, rfl⟩
  have hfar : ∀ u, U.drew.grownBy u v1.ownBlock → u.cell? ⟨B4, 0, none⟩ = some (.slice (some ⟨g, 0, none⟩) k c) ∧ u.cell? ⟨g, n, none⟩ = some v1 ∧ u.frozen? ⟨g, n, none⟩ = false := fun u hg => by
    have hab : Boxed U.drew B4 236 (.slice (some ⟨g, 0, none⟩) k c) := by rw [← hB4]; exact hP.abox
    have hrow : U.drew.ownsRow w.heap.size 241 1 (.slice (some ⟨g, 0, none⟩) k c) vals.length vals := hP.al.row
    exact ⟨(bx_ty hab hg y1 (by decide)).cell, row_cell (ow_ty hrow hg y1 (by decide)) hv⟩
  rw [hB4] at cA hQ ⊢
  obtain ⟨ho1, hc1, rfl⟩ := (holds_of hO).form
  refine wpIn_region_any (by kernel_rfl) ?_
  refine R8.any8 (w := U.drew) (fun b v => { tmps := #[s0, s1, s2, s3, .pointer (some ⟨B4, 0, none⟩), s5, .pointer (some ⟨Bx, 0, none⟩), .int .i64 (n : Int), s8, s9, s10, s11, s12, s13, s14, s15, s16, s17, s18, s19, s20, s21, s22, s23, s24, s25, R8.pk (b 0) (.slice (some ⟨g, 0, none⟩) k c), R8.pk (b 1) (.int .i64 (n : Int)), R8.pk (b 2) (.slice (some ⟨g, 0, none⟩) k c), R8.pk (b 3) (.int .i64 (n : Int)), R8.pk (b 4) (.pointer (some ⟨g, n, none⟩)), R8.pk (b 5) (.slice ho1 h.length hc1), R8.pk (b 6) (prV ⟨X, Y⟩), R8.pk (b 7) v, undef, undef, undef, undef, undef, undef, undef], defers := [] }) (fun v u => Grows w.heap.size U.drew (.slice ho1 h.length hc1) v L u ∧ u.cell? ⟨B4, 0, none⟩ = some (.slice (some ⟨g, 0, none⟩) k c) ∧ u.cell? ⟨g, n, none⟩ = some (.slice ho1 h.length hc1) ∧ u.frozen? ⟨g, n, none⟩ = false ∧ ∃ ao' c', v = .slice ao' L.length c') (R8.chk_all (of_decide_eq_true (by kernel_rfl))) ?hstep ?hcall ?hfin undef
  case hstep =>
    rintro b ⟨i, hi⟩ h7 hbi hd hcl v u hst K hK
    have cA' : u.cell? ⟨B4, 0, none⟩ = some (.slice (some ⟨g, 0, none⟩) k c) := by
      rcases hst with ⟨_, rfl⟩ | ⟨_, hp⟩
      · exact cA
      · exact hp.2.1
    have hu : 2 ≤ i → u = U.drew := fun h2 => by
      rcases hst with ⟨_, rfl⟩ | ⟨q7, _⟩
      · rfl
      · obtain ⟨r2, r3, r4, r5, r6⟩ := R8.closed_call b hcl q7
        exfalso
        rcases (by omega : i = 2 ∨ i = 3 ∨ i = 4 ∨ i = 5 ∨ i = 6 ∨ i = 7) with rfl | rfl | rfl | rfl | rfl | rfl
        · exact absurd (r2.symm.trans hbi) (by decide)
        · exact absurd (r3.symm.trans hbi) (by decide)
        · exact absurd (r4.symm.trans hbi) (by decide)
        · exact absurd (r5.symm.trans hbi) (by decide)
        · exact absurd (r6.symm.trans hbi) (by decide)
        · exact h7 rfl
    rcases (by omega : i = 0 ∨ i = 1 ∨ i = 2 ∨ i = 3 ∨ i = 4 ∨ i = 5 ∨ i = 6 ∨ i = 7) with rfl | rfl | rfl | rfl | rfl | rfl | rfl | rfl
    · refine R8.wpOpIn_yield (v := .slice (some ⟨g, 0, none⟩) k c) rfl rfl (fun _ h => by cases h) rfl ?_ hK
      go_simp
    · refine R8.wpOpIn_yield (v := .int .i64 (n : Int)) rfl rfl (fun _ h => by cases h) rfl ?_ hK
      go_simp
    · refine R8.wpOpIn_yield (v := .slice (some ⟨g, 0, none⟩) k c) rfl rfl (fun _ h => by cases h) rfl ?_ hK
      go_simp
    · refine R8.wpOpIn_yield (v := .int .i64 (n : Int)) rfl rfl (fun _ h => by cases h) rfl ?_ hK
      go_simp
    · have e2 := R8.pk_true (hd 2 (by simp [R8.deps])) (.slice (some ⟨g, 0, none⟩) k c)
      have e3 := R8.pk_true (hd 3 (by simp [R8.deps])) (.int .i64 (n : Int))
      refine R8.wpOpIn_yield (v := .pointer (some ⟨g, n, none⟩)) rfl rfl (fun _ h => by cases h) rfl ?_ hK
      go_simp
    · obtain rfl := hu (by omega)
      have e4 := R8.pk_true (hd 4 (by simp [R8.deps])) (.pointer (some ⟨g, n, none⟩))
      refine R8.wpOpIn_yield (v := .slice ho1 h.length hc1) rfl rfl (fun _ h => by cases h) rfl ?_ hK
      go_simp
    · obtain rfl := hu (by omega)
      refine R8.wpOpIn_yield (v := prV ⟨X, Y⟩) rfl rfl (fun _ h => by cases h) rfl ?_ hK
      simp only [prV]
      go_simp
    · exact absurd rfl h7
  case hcall =>
    intro b v h7 h5 h6 K hK
    have e5 := R8.pk_true h5 (.slice ho1 h.length hc1)
    have e6 := R8.pk_true h6 (prV ⟨X, Y⟩)
    refine R8.wpOpIn_call (f := 141) (args := #[.slice ho1 h.length hc1, prV ⟨X, Y⟩]) (R := fun v' u => Grows w.heap.size U.drew (.slice ho1 h.length hc1) v' L u) rfl rfl (fun _ h => by cases h) (fun _ => trivial) rfl ?_ (CallsIn.inRound lp (callsIn_wide.2 (with_f h ⟨X, Y⟩ w.heap.size _ U.drew hOd hbU hs hn hl L hL))) ?_
    · go_simp
      exact ⟨rfl, rfl⟩
    · intro v' u hG
      obtain ⟨ao', c', rfl⟩ := (holds_of hG.1).form
      obtain ⟨f1, f2, f3⟩ := hfar u hG.2.1
      exact hK _ u ⟨hG, f1, f2, f3, ao', c', rfl⟩
  case hfin =>
    rintro _ u ⟨hG, f1, f2, f3, ao', c', rfl⟩
    have eT : ∀ v, R8.pk true v = v := fun _ => rfl
    simp only [eT]
    refine R8.wpOpIn_yield (v := .pointer (some ⟨g, n, none⟩)) rfl rfl (fun _ h => by cases h) rfl ?_ ?_
    · go_simp
    · refine wpAnyIn_ready (rs := [9]) (by kernel_rfl) (by simp) (AllReadyIn.cons rfl (fun K hK => ?_) AllReadyIn.nil)
      go_simp
      refine hK _ _ ⟨by kernel_rfl, ?_⟩
      exact hQ _ u ⟨hG.1, (drew_grown U _).trans hG.2.1, hG.2.2⟩
/-- the heads, and one pair more -/
theorem heads_step {R : List (Nat × Pr)} {H H' : List (List Pr)} {p : Pr} {n : Nat} (i : Nat) (hR : Hds (R.map (·.2)) H ∧ H.length ≤ R.length ∧ ∀ h ∈ H, h.length ≤ R.length) (hn : n ≤ H.length) (hh : (∀ m, m < n → Hd (R.map (·.2)) m p) ∧ ¬ Hd (R.map (·.2)) n p) (e : H' = room H n) :
    ∃ h, H'[n]? = some h ∧ Stair h ∧ (¬ ∃ a ∈ h, ab a p) ∧ h.length ≤ R.length ∧ Hds (((i, p) :: R).map (·.2)) (H'.set n (ins h p)) ∧ (H'.set n (ins h p)).length ≤ ((i, p) :: R).length ∧ ∀ x ∈ H'.set n (ins h p), x.length ≤ ((i, p) :: R).length := by
  have hm : ∀ x ∈ H', x.length ≤ R.length := fun x hx => by
    rw [e] at hx
    unfold room at hx
    split at hx
    · rcases List.mem_append.1 hx with q | q
      · exact hR.2.2 x q
      · simp at q
        simp [q]
    · exact hR.2.2 x hx
  have hlen : H'.length ≤ H.length + 1 ∧ n < H'.length := by
    rw [e]
    unfold room
    split
    · simp; omega
    · exact ⟨by omega, by omega⟩
  have hg : H'[n]? = some H'[n] := List.getElem?_eq_getElem hlen.2
  obtain ⟨q1, _, q3, q4⟩ := hR.1.step hn hh.1 hh.2 (H'[n]) (by rw [← e]; exact hg)
  rw [← e] at q1
  refine ⟨_, hg, q3, q4, hm _ (List.getElem_mem _), q1, by have := hR.2.1; simp; omega, fun x hx => ?_⟩
  rcases List.mem_or_eq_of_mem_set hx with q | q
  · have := hm x q
    simp
    omega
  · rw [q]
    have h1 := ins_len (H'[n]) p (upto_grt q3 q4)
    have h2 := hm _ (List.getElem_mem hlen.2)
    simp
    omega
theorem blk_ty {W W' : World} {row : Option Nat} {e : TypeId} {B : Nat} {t : TypeId} {cs : Array Value} (h : W.heap[B]? = some (.cells cs t (0, 0))) (hg : W.grownBy W' row) (hy : Ty W row e) (hne : t ≠ e) : W'.heap[B]? = some (.cells cs t (0, 0)) := by
  refine (hg.block B (Array.getElem?_eq_some_iff.1 h).1 (fun q => ?_)).trans h
  obtain ⟨cur, h2⟩ := hy B q.symm
  rw [h] at h2
  cases h2
  exact hne rfl
theorem Rp.more_blk {w : World} {n : Nat} {Z : List Int} {va va' : Value} {vals : List Value} {H : List (List Pr)} {vl : Value} {W w1 : World} (h : Rp w n Z va vals H vl W) (hg : W.grownBy w1 va.ownBlock) {B : Nat} {cs : Array Value} (hx : W.heap[B]? = some (.cells cs 189 (0, 0))) : (w1.setCell ⟨w.heap.size + 1 + 1, 0, none⟩ va').heap[B]? = some (.cells cs 189 (0, 0)) := by
  have y1 : Ty W va.ownBlock 241 := ty_row h.al.row
  have a1 := bx_ty h.abox hg y1 (by decide)
  have y2 : Ty w1 (some (w.heap.size + 1 + 1)) 236 := fun q hq => by cases hq; exact ⟨_, a1⟩
  exact blk_ty (blk_ty hx hg y1 (by decide)) (grownBy_setCell' w1 (w.heap.size + 1 + 1) va') y2 (by decide)

end Go.Proofs.YtnlbjknfahhfaaaGreatDoor
