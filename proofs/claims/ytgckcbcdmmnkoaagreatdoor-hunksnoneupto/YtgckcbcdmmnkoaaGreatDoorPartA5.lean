/-
  Texts that belong together, joined: HuRf6, HuRf7, PcLs, HuOwn, HuIv, HuCn, HuM2, HuM3, HuOne, EdRChk, HuCh, HuGr, HuC1.
-/
import Derived.Test.YtgckcbcdmmnkoaaGreatDoorPartA4
import Derived.Test.YtgckcbcdmmnkoaaGreatDoorPartA3
import Derived.Laws.Rows
import Derived.Deep.CutRange

/- The reference's Same, SameHunks of layer 11, walked: hunks that are the same. -/
set_option maxRecDepth 20000
namespace Go.Proofs.YtgckcbcdmmnkoaaGreatDoor
open Go.RowKit

set_option maxHeartbeats 4000000 in
theorem rSame_f (h : Hk) (v1 v2 : Value) (w : World) (hv1 : HMk w v1 h.ls) (hv2 : HMk w v2 h.ls) (hl : h.ls.length ≤ 1099511627776) : Calls Tryz.prog 20 #[hkV h v1, hkV h v2] w fun e w' => e = .returned (.bool true) ∧ Below w.heap.size w w' := by
  obtain ⟨A, AN, B, BN, ls⟩ := h
  dsimp only at hv1 hv2 hl
  obtain ⟨o1, c1, rfl⟩ := HMk.form hv1
  obtain ⟨o2, c2, rfl⟩ := HMk.form hv2
  have hx1 := Hx.new w ⟨A, AN, B, BN, ls⟩ (.slice o1 ls.length c1)
  have hB1 : Below w.heap.size w (w.alloc (hkO ⟨A, AN, B, BN, ls⟩ (.slice o1 ls.length c1))) := (Below.refl _ w).alloc (Nat.le_refl _) _
  have hx2 : Hx ((w.alloc (hkO ⟨A, AN, B, BN, ls⟩ (.slice o1 ls.length c1))).alloc (hkO ⟨A, AN, B, BN, ls⟩ (.slice o2 ls.length c2))) (w.heap.size + 1) ⟨A, AN, B, BN, ls⟩ (.slice o2 ls.length c2) := alloc_second w _ _
  have hB2 : Below w.heap.size w ((w.alloc (hkO ⟨A, AN, B, BN, ls⟩ (.slice o1 ls.length c1))).alloc (hkO ⟨A, AN, B, BN, ls⟩ (.slice o2 ls.length c2))) := hB1.alloc (by simp) _
  have hx1' := hx1.low ((Below.refl _ (w.alloc (hkO ⟨A, AN, B, BN, ls⟩ (.slice o1 ls.length c1)))).alloc (Nat.le_refl _) (hkO ⟨A, AN, B, BN, ls⟩ (.slice o2 ls.length c2)))
  have hm1 := HMk.keep hv1 hB2 (Nat.le_refl _)
  have hm2 := HMk.keep hv2 hB2 (Nat.le_refl _)
  obtain ⟨x0, x1, x2, x3, x4⟩ := hx1'.cells
  obtain ⟨y0, y1, y2, y3, y4⟩ := hx2.cells
  unfold hkV
  dsimp only at x0 x1 x2 x3 x4 y0 y1 y2 y3 y4 ⊢
  have hW0 : (w.alloc (hkO ⟨A, AN, B, BN, ls⟩ (.slice o1 ls.length c1))).alloc (hkO ⟨A, AN, B, BN, ls⟩ (.slice o2 ls.length c2)) = (w.alloc (Obj.cells #[Value.int IntKind.i64 A, Value.int IntKind.i64 AN, Value.int IntKind.i64 B, Value.int IntKind.i64 BN, .slice o1 ls.length c1] 39)).alloc (Obj.cells #[Value.int IntKind.i64 A, Value.int IntKind.i64 AN, Value.int IntKind.i64 B, Value.int IntKind.i64 BN, .slice o2 ls.length c2] 39) := rfl
  clear hx1 hx2 hx1' hB1 hv1 hv2
  generalize (w.alloc (hkO ⟨A, AN, B, BN, ls⟩ (.slice o1 ls.length c1))).alloc (hkO ⟨A, AN, B, BN, ls⟩ (.slice o2 ls.length c2)) = W at *
  have hW := hW0.symm
  clear hW0
  go_enter Tryz.func20, Tryz.ntmps20
  go_wp2
  clear hW
  go_loopw [5] (fun iv wr => ∃ k m : Nat, k ≤ ls.length ∧ iv = .int .i64 (k : Int) ∧ wr = W.drewN m) (fun iv _ => ls.length - (intOf iv).toNat)
  case atStart => exact ⟨0, 0, Nat.zero_le _, by go_num, rfl⟩
  case round =>
    obtain ⟨k, m, hk, rfl, rfl⟩ := hrel
    have x4' : (W.drewN m).cell? ⟨w.heap.size, 4, none⟩ = some (.slice o1 ls.length c1) := x4
    have y4' : (W.drewN m).cell? ⟨w.heap.size + 1, 4, none⟩ = some (.slice o2 ls.length c2) := y4
    by_cases hlt : k < ls.length
    · obtain ⟨b1, f1, rfl, _, hc1⟩ := HMk.at hm1 (by omega)
      obtain ⟨b2, f2, rfl, _, hc2⟩ := HMk.at hm2 (by omega)
      obtain ⟨s0, s1⟩ := hc1 k hlt
      obtain ⟨t0, t1⟩ := hc2 k hlt
      obtain ⟨q, hq⟩ : ∃ q, ls[k] = q := ⟨_, rfl⟩
      rw [hq] at s0 s1 t0 t1
      obtain ⟨sg, tx⟩ := q
      dsimp only at s0 s1 t0 t1
      clear hc1 hc2 hq
      have i1 : 0 ≤ (k : Int) := by omega
      have i2 : (k : Int) < (ls.length : Int) := by omega
      go_wp2_with fail
      go_quiet (fail)
      go_wp2
      go_roundw
      case rel => exact ⟨k + 1, _, by omega, by go_num, rfl⟩
      case measure => simp [intOf]; omega
    · have hend : decide ((k : Int) < (ls.length : Int)) = false := decide_eq_false (by omega)
      go_wp2
      go_ret
      exact ⟨rfl, Below.dN hB2 _⟩
end Go.Proofs.YtgckcbcdmmnkoaaGreatDoor

/- The reference's SameHunks of layer 11, walked: rows of hunks that are the same; steps by hand. -/
set_option maxRecDepth 20000
namespace Go.Proofs.YtgckcbcdmmnkoaaGreatDoor
open Go.RowKit

theorem exec_ixH {u : World} {b off n c i : Nat} (hi : i < n) {op : Oper} (x y : Operand) (ho : op.op = .indexAddr 32 x y) {ev : Operand → Value} (hx : ev x = .slice (some ⟨b, off, none⟩) n c) (hy : ev y = .int .i64 (i : Int)) :
    (execOp ev op).run Tryz.prog u = .ok (.value (.pointer (some ⟨b, off + i * 5, none⟩))) u := by
  have i1 : 0 ≤ (i : Int) := by omega
  have i2 : (i : Int) < (n : Int) := by omega
  simp only [execOp, ho, hx, hy]
  go_simp
/-- the cells of a hunk in a row -/
def HkAt (u : World) (b o : Nat) (x : Hk) (y : Value) : Prop := u.cell? ⟨b, o, none⟩ = some (.int .i64 x.A) ∧ u.cell? ⟨b, o + 1, none⟩ = some (.int .i64 x.AN) ∧ u.cell? ⟨b, o + 2, none⟩ = some (.int .i64 x.B) ∧ u.cell? ⟨b, o + 3, none⟩ = some (.int .i64 x.BN) ∧ u.cell? ⟨b, o + 4, none⟩ = some y
theorem HkAt.low {u u' : World} {b o : Nat} {x : Hk} {y : Value} (h : HkAt u b o x y) (hB : Low u u') : HkAt u' b o x y := by
  have key : ∀ (q : Addr) (z : Value), u.cell? q = some z → u'.cell? q = some z := fun q z hz => (World.cell?_of_block (w := u) (Below.block hB _ (World.block_lt_of_cell? _ _ hz))).trans hz
  exact ⟨key _ _ h.1, key _ _ h.2.1, key _ _ h.2.2.1, key _ _ h.2.2.2.1, key _ _ h.2.2.2.2⟩
theorem load_hkR {u : World} {b o : Nat} {h : Hk} {yo : Option Addr} {n yc : Nat} (q : HkAt u b o h (.slice yo n yc)) {op : Oper} (x : Operand) (ho : op.op = .load 39 x) {ev : Operand → Value} (hx : ev x = .pointer (some ⟨b, o, none⟩)) :
    (execOp ev op).run Tryz.prog u = .ok (.value (hkV h (.slice yo n yc))) u := by
  obtain ⟨d0, d1, d2, d3, d4⟩ := q
  unfold hkV
  simp only [execOp, ho, hx]
  go_simp
theorem hsame_held {h : Hk} {v1 v2 : Value} {W u : World} (hv1 : HMk W v1 h.ls) (hv2 : HMk W v2 h.ls) (hl : h.ls.length ≤ 1099511627776) (hL : Low W u) : Calls Tryz.prog 20 (#[hkV h v1, hkV h v2] ++ #[]) u fun e w' => ∃ x, e = .returned x ∧ Low W w' ∧ x = .bool true := by
  refine (rSame_f h v1 v2 u (HMk.keep hv1 hL (Nat.le_refl _)) (HMk.keep hv2 hL (Nat.le_refl _)) hl).mono ?_
  rintro e w' ⟨rfl, hB⟩
  exact ⟨_, rfl, hL.trans (hB.mono hL.size), rfl⟩

end Go.Proofs.YtgckcbcdmmnkoaaGreatDoor

/- A row of numbers of one's own, at a known block: what is kept. -/
set_option maxRecDepth 20000
namespace Go.Proofs.YtgckcbcdmmnkoaaGreatDoor
open Go.RowKit

/-- the state of the walk -/
structure Ls (w : World) (g n : Nat) (Z : List Int) (u : World) : Prop where
  low : Below w.heap.size w u
  own : u.ownsRow w.heap.size 3 1 (.slice (some ⟨g, 0, none⟩) n n) n (icells Z)
theorem Ls.drewN {w u : World} {g n : Nat} {Z : List Int} (h : Ls w g n Z u) (k : Nat) : Ls w g n Z (u.drewN k) := ⟨Below.dN h.low k, h.own⟩
theorem Ls.keep {w u u' : World} {g n : Nat} {Z : List Int} (h : Ls w g n Z u) (hb : Below u.heap.size u u') : Ls w g n Z u' := ⟨h.low.trans (hb.mono h.low.size), owns_keep h.own hb⟩
theorem Ls.set {w u : World} {g n : Nat} {Z : List Int} (h : Ls w g n Z u) (k : Nat) (m : Int) : Ls w g n (Z.set k m) (u.setCell ⟨g, k, none⟩ (.int .i64 m)) := by
  obtain ⟨p1, g1⟩ := h.own.stored k (.int .i64 m)
  have e : (icells Z).set k (.int .i64 m) = icells (Z.set k m) := by simp [icells, List.map_set]
  rw [e] at p1
  exact ⟨h.low.grown g1 h.low.size (fun j hj => owns_ge h.own (by simpa [Value.ownBlock] using hj)), p1⟩
theorem Ls.len {w u : World} {g n : Nat} {Z : List Int} (h : Ls w g n Z u) : Z.length = n := by
  have := h.own.1
  rw [icells_length, Nat.mul_one] at this
  exact this
theorem Ls.at {w u : World} {g n : Nat} {Z : List Int} (h : Ls w g n Z u) {k : Nat} {z : Int} (hz : Z[k]? = some z) : u.cell? ⟨g, k, none⟩ = some (.int .i64 z) := by
  have hl := (List.getElem?_eq_some_iff.1 hz).1
  rw [h.len] at hl
  rw [h.own.cellAt k (by omega)]
  simp [icells, hz]
theorem low_grown {w u : World} (h : Low w u) (r : Option Nat) : w.grownBy u r := ⟨Below.os h, Below.tape h, Below.output h, Below.size h, fun k hk _ => Below.block h k hk⟩
theorem grown_set (u : World) (g j : Nat) (v : Value) : u.grownBy (u.setCell ⟨g, j, none⟩ v) (some g) := ⟨rfl, rfl, rfl, (KeepsWalks.setCell u _ v).size, fun k _ hk => Below.heap_setCell _ _ _ k (fun e => hk (by rw [e]))⟩
theorem ls_other {W0 u : World} {n : Nat} {K : List Int} {G : Nat} (h : Ls W0 G n K u) {g : Nat} (hg : G ≠ g) (hw : W0.heap.size ≤ g) (j : Nat) (v : Value) : Ls W0 G n K (u.setCell ⟨g, j, none⟩ v) :=
  ⟨h.low.grown (grown_set u g j v) h.low.size (fun q hq => by cases hq; exact hw), h.own.kept (grown_set u g j v) (.inr (fun e => by simp [Value.ownBlock] at e; omega))⟩
theorem grown_new {w u : World} {r : Option Nat} (h : w.grownBy u r) {B : Nat} (hB : w.heap.size ≤ B) (j : Nat) (v : Value) : w.grownBy (u.setCell ⟨B, j, none⟩ v) r :=
  ⟨h.os, h.tape, h.output, Nat.le_trans h.size (grown_set u B j v).size, fun k hk hn => (heap_setCell_other u _ k _ (fun e => by simp at e; omega)).trans (h.block k hk hn)⟩
theorem grown_drewN {w u : World} {r : Option Nat} (h : w.grownBy u r) (k : Nat) : w.grownBy (u.drewN k) r := ⟨h.os, h.tape, h.output, h.size, h.block⟩
end Go.Proofs.YtgckcbcdmmnkoaaGreatDoor

/- Hunks of one's own: a row of them, each with a row of lines of one's own; the reference's Copy, walked. -/
set_option maxRecDepth 20000
namespace Go.Proofs.YtgckcbcdmmnkoaaGreatDoor
open Go.RowKit

theorem own_lt {u : World} {base : Nat} {e : TypeId} {s : Nat} {v : Value} {n : Nat} {xs : List Value} (h : u.ownsRow base e s v n xs) {g : Nat} (hg : v.ownBlock = some g) : g < u.heap.size := by
  rcases h.2 with ⟨rfl, _⟩ | ⟨b, cap, cur, rfl, _, hb, _⟩
  · cases hg
  · simp [Value.ownBlock] at hg
    subst hg
    exact (Array.getElem?_eq_some_iff.1 hb).1
theorem own_ne {u : World} {base base' : Nat} {e e' : TypeId} {s s' : Nat} {v v' : Value} {n n' : Nat} {xs xs' : List Value} (h : u.ownsRow base e s v n xs) (h' : u.ownsRow base' e' s' v' n' xs') (he : e ≠ e') {g : Nat} (hg : v.ownBlock = some g) : v'.ownBlock ≠ some g := by
  intro hg'
  rcases h.2 with ⟨rfl, _⟩ | ⟨b, cap, cur, rfl, _, hb, _⟩
  · cases hg
  · rcases h'.2 with ⟨rfl, _⟩ | ⟨b', cap', cur', rfl, _, hb', _⟩
    · cases hg'
    · simp [Value.ownBlock] at hg hg'
      subst hg hg'
      rw [hb] at hb'
      simp at hb'
      exact he hb'.2
/-- a row of hunks of one's own -/
structure Hs (w : World) (ov : Value) (P : List (Hk × Value)) (u : World) : Prop where
  low : Below w.heap.size w u
  own : u.ownsRow w.heap.size 39 5 ov P.length (hkcells P)
  ins : ∀ x ∈ P, u.ownsRow w.heap.size 52 2 x.2 x.1.ls.length (mkcells x.1.ls)
theorem Hs.nil (w : World) : Hs w (.slice none 0 0) [] w := ⟨Below.refl _ _, hnil_row _ _ _ _, fun _ h => by cases h⟩
theorem Hs.alloc {w : World} {ov : Value} {P : List (Hk × Value)} {u : World} (h : Hs w ov P u) (o : Obj) : Hs w ov P (u.alloc o) := ⟨h.low.alloc h.low.size o, h.own.alloc o, fun x hx => (h.ins x hx).alloc o⟩
theorem Hs.drewN {w : World} {ov : Value} {P : List (Hk × Value)} {u : World} (h : Hs w ov P u) (n : Nat) : Hs w ov P (u.drewN n) := ⟨Below.dN h.low n, h.own, h.ins⟩
/-- what is written lies in a block that is none of theirs -/
theorem Hs.grown {w : World} {ov : Value} {P : List (Hk × Value)} {u u' : World} (h : Hs w ov P u) {g : Option Nat} (hg : u.grownBy u' g) (hb : ∀ k, g = some k → w.heap.size ≤ k) (h1 : ∀ k, g = some k → ov.ownBlock ≠ some k) (h2 : ∀ x ∈ P, ∀ k, g = some k → x.2.ownBlock ≠ some k) : Hs w ov P u' := by
  have key : ∀ {e : TypeId} {s : Nat} {v : Value} {n : Nat} {xs : List Value}, u.ownsRow w.heap.size e s v n xs → (∀ k, g = some k → v.ownBlock ≠ some k) → u'.ownsRow w.heap.size e s v n xs := by
    intro e s v n xs ho hne
    refine ⟨ho.1, ?_⟩
    rcases ho.2 with q | ⟨b, cap, cur, rfl, q2, q3, q4⟩
    · exact .inl q
    · refine .inr ⟨b, cap, cur, rfl, q2, ?_, q4⟩
      rw [hg.block b (Array.getElem?_eq_some_iff.1 q3).1 (fun e => hne b e.symm rfl)]
      exact q3
  exact ⟨h.low.grown hg h.low.size (fun k hk => hb k hk), key h.own h1, fun x hx => key (h.ins x hx) (h2 x hx)⟩
theorem Hs.lt {w : World} {ov : Value} {P : List (Hk × Value)} {u : World} (h : Hs w ov P u) : (∀ k, ov.ownBlock = some k → k < u.heap.size) ∧ ∀ x ∈ P, ∀ k, x.2.ownBlock = some k → k < u.heap.size := ⟨fun _ hk => own_lt h.own hk, fun x hx _ hk => own_lt (h.ins x hx) hk⟩
/-- one that is new, a box or a row, is none of theirs -/
theorem Hs.fresh {w : World} {ov : Value} {P : List (Hk × Value)} {u u1 u' : World} (h : Hs w ov P u) (h1 : Hs w ov P u1) {k : Nat} (hk : u.heap.size ≤ k) (hg : u1.grownBy u' (some k)) : Hs w ov P u' := by
  have hl := h.lt
  have hs := h.low.size
  refine h1.grown hg (fun j hj => by cases hj; omega) (fun j hj => by cases hj; intro e; have := hl.1 _ e; omega) (fun x hx j hj => by cases hj; intro e; have := hl.2 x hx _ e; omega)
/-- what it holds -/
theorem Hs.holds {w : World} {ov : Value} {P : List (Hk × Value)} {u : World} (h : Hs w ov P u) : HHp u ov P := ⟨holds_of h.own, fun x hx => holds_of (h.ins x hx)⟩
/-- a hunk more -/
theorem Hs.more {w : World} {ov : Value} {P : List (Hk × Value)} {u u' : World} (h : Hs w ov P u) {x : Hk} {y ov' : Value} (hy : u.ownsRow w.heap.size 52 2 y x.ls.length (mkcells x.ls)) (hg : u.grownBy u' ov.ownBlock) (ho : u'.ownsRow w.heap.size 39 5 ov' (P.length + 1) (hkcells P ++ hkC x y)) : Hs w ov' (P ++ [(x, y)]) u' := by
  have key : ∀ {v : Value} {n : Nat} {xs : List Value}, u.ownsRow w.heap.size 52 2 v n xs → u'.ownsRow w.heap.size 52 2 v n xs := by
    intro v n xs hv
    refine ⟨hv.1, ?_⟩
    rcases hv.2 with q | ⟨b, cap, cur, rfl, q2, q3, q4⟩
    · exact .inl q
    · refine .inr ⟨b, cap, cur, rfl, q2, ?_, q4⟩
      rw [hg.block b (Array.getElem?_eq_some_iff.1 q3).1 (fun e => own_ne h.own hv (by decide) e.symm rfl)]
      exact q3
  refine ⟨h.low.grown hg h.low.size (fun j hj => owns_ge h.own hj), ?_, fun z hz => ?_⟩
  · rw [hkcells_append, List.length_append]
    have e : hkcells [(x, y)] = hkC x y := by simp [hkcells]
    rw [e]
    exact ho
  · rcases List.mem_append.1 hz with hz | hz
    · exact key (h.ins z hz)
    · rw [List.mem_singleton.1 hz]
      exact key hy
/-- one hunk, as a new row of one -/
theorem one_row (w : World) (x : Hk) (y : Value) : Holds (w.alloc (hkO x y)) (.slice (some ⟨w.heap.size, 0, none⟩) 1 1) 1 (hkC x y) := new_holds w #[.int .i64 x.A, .int .i64 x.AN, .int .i64 x.B, .int .i64 x.BN, y] 39 1 1 (by decide)
theorem hkC_one (x : Hk) {o : Option Addr} {n c : Nat} : ∀ u ∈ hkC x (.slice o n c), u.oneCell' = true := by
  intro u hu
  simp only [hkC, List.mem_cons, List.not_mem_nil, or_false] at hu
  rcases hu with rfl | rfl | rfl | rfl | rfl <;> rfl
theorem Hx.setl {u : World} {b : Nat} {h : Hk} {v : Value} (q : Hx u b h v) (z : Value) : Hx (u.setCell ⟨b, 4, none⟩ z) b h z := heap_setCell_same u b 4 _ _ z q

end Go.Proofs.YtgckcbcdmmnkoaaGreatDoor

/- The reference's Invert of layer 11, walked. -/
set_option maxRecDepth 20000
namespace Go.Proofs.YtgckcbcdmmnkoaaGreatDoor
open Go.RowKit

/-- two operations that yield values, whichever comes first -/
theorem go_two {P : Program} {S : World → Prop} {md : Region.Mode} {ops : Array Oper} {Q : Exit → Act → World → Prop} {fuel : Nat} {listed : Array Bool} {A : Act} {w : World}
    (i d : Nat) (op : Oper) (j e : Nat) (oq : Oper) (hi : ops[i]? = some op) (hd : op.dst = some d) (hj : ops[j]? = some oq) (he : oq.dst = some e) (hr : Region.ready md ops listed = [i, j]) (hwt : Region.wanted op (yielded ops A.tmps) = true) (hwq : Region.wanted oq (yielded ops A.tmps) = true)
    (vp : Value) (wp : World) (hp : (execOp A.eval op).run P w = .ok (.value vp) wp) (hSp : S wp)
    (vq : Value) (wq : World) (hq : (execOp A.eval oq).run P w = .ok (.value vq) wq) (hSq : S wq)
    (h : wpAnyH P md ops Q S fuel (listed.setIfInBounds i true) (A.put (some d) vp) wp)
    (h2 : wpAnyH P md ops Q S fuel (listed.setIfInBounds j true) (A.put (some e) vq) wq) :
    wpAnyH P md ops Q S (fuel + 1) listed A w := by
  refine wpAnyH_ready hr (by simp) (AllReadyH.cons hi (fun K hK => ?_) (AllReadyH.cons hj (fun K hK => ?_) AllReadyH.nil))
  · refine step_want hwt ?_
    unfold Oper.wp
    rw [hp, Oper.upon_value]
    exact hK.out _ _ hSp (fun _ => by rw [hd]; exact h)
  · refine step_want hwq ?_
    unfold Oper.wp
    rw [hq, Oper.upon_value]
    exact hK.out _ _ hSq (fun _ => by rw [he]; exact h2)
/-- append, run by itself -/
theorem exec_app {w w' : World} {T : TypeId} {v vx v' : Value} {op : Oper} (x y : Operand) (ho : op.op = .call { callee := .builtin .append, args := #[x, y], argTypes := #[T, T] }) {ev : Operand → Value} (hx : ev x = v) (hy : ev y = vx) (hr : (Builtin.append_ #[T, T] op.type #[v, vx]).run Tryz.prog w = .ok v' w') :
    (execOp ev op).run Tryz.prog w = .ok (.value v') w' := by
  simp [execOp, ho, resolve, invoke, builtin, hx, hy, hr, Result.andThen]
/-- a line is read out of its box -/
theorem load_mk {u : World} {b : Nat} {m : Mk} (q : Mx u b m) {op : Oper} (x : Operand) (ho : op.op = .load 52 x) {ev : Operand → Value} (hx : ev x = .pointer (some ⟨b, 0, none⟩)) :
    (execOp ev op).run Tryz.prog u = .ok (.value (.agg #[.int .u8 m.sg, .string ⟨m.tx.toArray⟩])) u := by
  have hL : (loadVar 52 ⟨b, 0, none⟩).run Tryz.prog u = .ok (.agg #[.int .u8 m.sg, .string ⟨m.tx.toArray⟩]) u := run_loadVar_row u b _ _ _ _ _ q Tryz.underlying52 rfl (by kernel_rfl)
  simp only [execOp, ho, hx, Instr.loadAt, Instr.sureAddr, Sem.run_bind, Sem.run_pure, Result.andThen_ok, hL]
theorem load_mks {u : World} {a : Addr} {o : Option Addr} {n c : Nat} (h : u.cell? a = some (.slice o n c)) {op : Oper} (x : Operand) (ho : op.op = .load 37 x) {ev : Operand → Value} (hx : ev x = .pointer (some a)) :
    (execOp ev op).run Tryz.prog u = .ok (.value (.slice o n c)) u := by
  simp only [execOp, ho, hx]
  go_simp

/-- lines that grow in a hunk's box, and lines that wait: all else as it was -/
structure Iv (w : World) (q : Hk) (ov : Value) (x : List Mk) (av : Value) (y : List Mk) (u : World) : Prop where
  low : Below w.heap.size w u
  box : Hx u w.heap.size q ov
  own : u.ownsRow (w.heap.size + 1) 52 2 ov x.length (mkcells x)
  add : u.ownsRow (w.heap.size + 1) 52 2 av y.length (mkcells y)
  ne : ∀ g, ov.ownBlock = some g → av.ownBlock ≠ some g
section
variable {w : World} {q : Hk} {ov ov' av av' : Value} {x x' y y' : List Mk} {u u' : World}
theorem Iv.alloc (h : Iv w q ov x av y u) (o : Obj) : Iv w q ov x av y (u.alloc o) :=
  ⟨h.low.alloc h.low.size o, h.box.low ((Below.refl _ u).alloc (Nat.le_refl _) o), h.own.alloc o, h.add.alloc o, h.ne⟩
theorem Iv.drewN (h : Iv w q ov x av y u) (n : Nat) : Iv w q ov x av y (u.drewN n) := ⟨Below.dN h.low n, h.box, h.own, h.add, h.ne⟩
theorem own_kept {e : TypeId} {s B : Nat} {v : Value} {n : Nat} {xs : List Value} (ho : u.ownsRow B e s v n xs) {g : Option Nat} (hg : u.grownBy u' g) (hne : ∀ k, g = some k → v.ownBlock ≠ some k) : u'.ownsRow B e s v n xs := by
  refine ⟨ho.1, ?_⟩
  rcases ho.2 with q | ⟨b, cap, cur, rfl, q2, q3, q4⟩
  · exact .inl q
  · refine .inr ⟨b, cap, cur, rfl, q2, ?_, q4⟩
    rw [hg.block b (Array.getElem?_eq_some_iff.1 q3).1 (fun e => hne b e.symm rfl)]
    exact q3
/-- lines more -/
theorem Iv.grow (h : Iv w q ov x av y u) (hg : u.grownBy u' ov.ownBlock) (ho : u'.ownsRow (w.heap.size + 1) 52 2 ov' x'.length (mkcells x')) (hb : ov'.ownBlock = ov.ownBlock ∨ ov'.ownBlock = some u.heap.size) : Hx u' w.heap.size q ov ∧ Iv w q ov' x' av y (u'.setCell ⟨w.heap.size, 4, none⟩ ov') := by
  have hbx : Hx u' w.heap.size q ov := h.box.keep hg (fun e => by have := owns_ge h.own e.symm; omega)
  have hadd := own_kept h.add hg (fun k hk => h.ne k hk)
  have hs := grown_set u' w.heap.size 4 ov'
  have hlow : Below w.heap.size w u' := h.low.grown hg h.low.size (fun j hj => by have := owns_ge h.own hj; omega)
  refine ⟨hbx, hlow.grown hs hlow.size (fun j hj => by cases hj; exact Nat.le_refl _), hbx.setl ov', own_kept ho hs ?_, own_kept hadd hs ?_, ?_⟩
  · intro k hk e
    cases hk
    have := owns_ge ho e
    omega
  · intro k hk e
    cases hk
    have := owns_ge h.add e
    omega
  · intro g hg' e
    rcases hb with hb | hb
    · rw [hb] at hg'
      exact h.ne g hg' e
    · rw [hb] at hg'
      cases hg'
      have := own_lt h.add e
      omega
/-- lines more that wait -/
theorem Iv.wait (h : Iv w q ov x av y u) (hg : u.grownBy u' av.ownBlock) (ho : u'.ownsRow (w.heap.size + 1) 52 2 av' y'.length (mkcells y')) (hb : av'.ownBlock = av.ownBlock ∨ av'.ownBlock = some u.heap.size) : Iv w q ov x av' y' u' := by
  refine ⟨h.low.grown hg h.low.size (fun j hj => by have := owns_ge h.add hj; omega), h.box.keep hg (fun e => by have := owns_ge h.add e.symm; omega), own_kept h.own hg (fun k hk e => h.ne k e hk), ho, ?_⟩
  intro g hg' e
  rcases hb with hb | hb
  · rw [hb] at e
    exact h.ne g hg' e
  · rw [hb] at e
    cases e
    have := own_lt h.own hg'
    omega
/-- lines more, and none that wait -/
theorem Iv.last (h : Iv w q ov x av y u) (hg : u.grownBy u' ov.ownBlock) (ho : u'.ownsRow (w.heap.size + 1) 52 2 ov' x'.length (mkcells x')) : Hx u' w.heap.size q ov ∧ Iv w q ov' x' (.slice none 0 0) [] (u'.setCell ⟨w.heap.size, 4, none⟩ ov') := by
  have hbx : Hx u' w.heap.size q ov := h.box.keep hg (fun e => by have := owns_ge h.own e.symm; omega)
  have hs := grown_set u' w.heap.size 4 ov'
  have hlow : Below w.heap.size w u' := h.low.grown hg h.low.size (fun j hj => by have := owns_ge h.own hj; omega)
  refine ⟨hbx, hlow.grown hs hlow.size (fun j hj => by cases hj; exact Nat.le_refl _), hbx.setl ov', own_kept ho hs ?_, hnil_row _ _ _ _, fun g _ e => by cases e⟩
  intro k hk e
  cases hk
  have := owns_ge ho e
  omega
theorem grown_then {r r' : Option Nat} {u'' : World} (h : u.grownBy u' r) (h' : u'.grownBy u'' r') (hr : r' = r ∨ ∃ k, r' = some k ∧ u.heap.size ≤ k) : u.grownBy u'' r := by
  refine ⟨h'.os.trans h.os, h'.tape.trans h.tape, h'.output.trans h.output, Nat.le_trans h.size h'.size, fun k hk hne => ?_⟩
  rw [h'.block k (Nat.lt_of_lt_of_le hk h.size) ?_]
  · exact h.block k hk hne
  · intro e
    rcases hr with hr | ⟨j, hr, hj⟩
    · exact hne (e.trans hr)
    · rw [hr] at e
      cases e
      omega
theorem grown_alloc {r : Option Nat} (h : u.grownBy u' r) (o : Obj) : u.grownBy (u'.alloc o) r :=
  ⟨h.os, h.tape, h.output, Nat.le_trans h.size (by simp), fun k hk hne => by rw [Below.heap_alloc _ _ _ (Nat.lt_of_lt_of_le hk h.size)]; exact h.block k hk hne⟩
theorem Hx.put5 {b : Nat} {h : Hk} {v : Value} (p : Hx u b h v) (z0 z1 z2 z3 z4 : Value) : (((((u.setCell ⟨b, 0, none⟩ z0).setCell ⟨b, 1, none⟩ z1).setCell ⟨b, 2, none⟩ z2).setCell ⟨b, 3, none⟩ z3).setCell ⟨b, 4, none⟩ z4).heap[b]? = some (.cells #[z0, z1, z2, z3, z4] 39 (0, 0)) := by
  have s1 := heap_setCell_same u b 0 _ _ z0 p
  have s2 := heap_setCell_same _ b 1 _ _ z1 s1
  have s3 := heap_setCell_same _ b 2 _ _ z2 s2
  have s4 := heap_setCell_same _ b 3 _ _ z3 s3
  exact heap_setCell_same _ b 4 _ _ z4 s4
theorem own_base {e : TypeId} {s B B' : Nat} {v : Value} {n : Nat} {xs : List Value} (ho : u.ownsRow B e s v n xs) (hB : B' ≤ B) : u.ownsRow B' e s v n xs := by
  refine ⟨ho.1, ?_⟩
  rcases ho.2 with q | ⟨b, cap, cur, rfl, q2, q3, q4⟩
  · exact .inl q
  · exact .inr ⟨b, cap, cur, rfl, by omega, q3, q4⟩
theorem Iv.none (h : Iv w q ov x av y u) : Iv w q ov x (.slice none 0 0) [] u := ⟨h.low, h.box, h.own, hnil_row _ _ _ _, fun g _ e => by cases e⟩
end
theorem mk_row (w : World) (m : Mk) : Holds (w.alloc (mkO m)) (.slice (some ⟨w.heap.size, 0, none⟩) 1 1) 1 (mkcells [m]) := new_holds w #[.int .u8 m.sg, .string ⟨m.tx.toArray⟩] 52 1 1 (by decide)

theorem exec_storeL {u : World} {b j : Nat} {v : Value} (hf : u.frozen? ⟨b, j, none⟩ = false) {o n c} (hc : u.cell? ⟨b, j, none⟩ = some (.slice o n c)) {o' n' c'} (hv : v = .slice o' n' c') {op : Oper} (x y : Operand) (ho : op.op = .store 37 x y) {ev : Operand → Value} (hx : ev x = .pointer (some ⟨b, j, none⟩)) (hy : ev y = v) :
    (execOp ev op).run Tryz.prog u = .ok .skip (u.setCell ⟨b, j, none⟩ v) := by
  subst hv
  simp only [execOp, ho, hx, hy]
  go_simp

end Go.Proofs.YtgckcbcdmmnkoaaGreatDoor

/- The reference's count of layer 11, walked. -/
set_option maxRecDepth 20000
namespace Go.Proofs.YtgckcbcdmmnkoaaGreatDoor
open Go.RowKit

section
variable {u : World} {b : Nat} {A AN B BN : Int} {ls : List Mk} {v : Value}
theorem Hx.setA (q : Hx u b ⟨A, AN, B, BN, ls⟩ v) (z : Int) : Hx (u.setCell ⟨b, 0, none⟩ (.int .i64 z)) b ⟨z, AN, B, BN, ls⟩ v := heap_setCell_same u b 0 _ _ _ q
theorem Hx.setAN (q : Hx u b ⟨A, AN, B, BN, ls⟩ v) (z : Int) : Hx (u.setCell ⟨b, 1, none⟩ (.int .i64 z)) b ⟨A, z, B, BN, ls⟩ v := heap_setCell_same u b 1 _ _ _ q
theorem Hx.setB (q : Hx u b ⟨A, AN, B, BN, ls⟩ v) (z : Int) : Hx (u.setCell ⟨b, 2, none⟩ (.int .i64 z)) b ⟨A, AN, z, BN, ls⟩ v := heap_setCell_same u b 2 _ _ _ q
theorem Hx.setBN (q : Hx u b ⟨A, AN, B, BN, ls⟩ v) (z : Int) : Hx (u.setCell ⟨b, 3, none⟩ (.int .i64 z)) b ⟨A, AN, B, z, ls⟩ v := heap_setCell_same u b 3 _ _ _ q
theorem Hx.other (q : Hx u b ⟨A, AN, B, BN, ls⟩ v) {g : Nat} (hg : b ≠ g) (j : Nat) (z : Value) : Hx (u.setCell ⟨g, j, none⟩ z) b ⟨A, AN, B, BN, ls⟩ v := q.keep (grown_set u g j z) (fun e => hg (Option.some.inj e))
end

end Go.Proofs.YtgckcbcdmmnkoaaGreatDoor

/- Hunks gone back: whose lines are whose, going back twice; when lines are as they must be; plain mathematics. -/
set_option maxRecDepth 20000
namespace Go.Proofs.YtgckcbcdmmnkoaaGreatDoor

theorem pick_mks_same (no : Int) (hno : no = 43 ∨ no = 45) (x : List (List UInt8)) : pkL no (mks 32 x) = x := by
  induction x with
  | nil => rfl
  | cons t x ih =>
    show pkL no (⟨32, t⟩ :: mks 32 x) = _
    simp only [pkL, ih]
    rw [if_pos ⟨by omega, by decide⟩]
theorem pick_mks_in (no s : Int) (hs : no ≠ s) (ho : okS s = true) (x : List (List UInt8)) : pkL no (mks s x) = x := by
  induction x with
  | nil => rfl
  | cons t x ih =>
    show pkL no (⟨s, t⟩ :: mks s x) = _
    simp only [pkL, ih]
    rw [if_pos ⟨by omega, ho⟩]
theorem pick_mks_out (s : Int) (x : List (List UInt8)) : pkL s (mks s x) = [] := by
  induction x with
  | nil => rfl
  | cons t x ih =>
    show pkL s (⟨s, t⟩ :: mks s x) = _
    simp only [pkL, ih]
    simp
/-- all of one sign -/
def AllS (s : Int) (x : List Mk) : Prop := ∀ m ∈ x, m.sg = s
theorem AllS.nil (s : Int) : AllS s [] := fun _ h => by cases h
theorem AllS.snoc {s : Int} {x : List Mk} (h : AllS s x) (t : List UInt8) : AllS s (x ++ [⟨s, t⟩]) := by
  intro m hm
  simp at hm
  rcases hm with hm | rfl
  · exact h m hm
  · rfl
theorem pick_out {s : Int} {x : List Mk} (h : AllS s x) : pkL s x = [] := by
  induction x with
  | nil => rfl
  | cons m x ih =>
    simp only [pkL]
    rw [if_neg (by simp [h m (by simp)])]
    exact ih fun q hq => h q (by simp [hq])

/-- the old lines of a hunk that goes back are the new ones -/
theorem inv_old (l : List Mk) : ∀ x, AllS 43 x → pkL 43 (invG x l) = pkL 45 l := by
  induction l with
  | nil => intro x hx; simp only [invG, pkL]; exact pick_out hx
  | cons m l ih =>
    intro x hx
    simp only [invG]
    by_cases h1 : m.sg = 43
    · rw [if_pos h1]
      simp only [pkL, ih x hx]
      rw [if_pos ⟨by decide, by decide⟩, if_pos ⟨by omega, by rw [h1]; decide⟩]
    · rw [if_neg h1]
      by_cases h2 : m.sg = 45
      · rw [if_pos h2, ih _ (hx.snoc _)]
        simp only [pkL]
        rw [if_neg (by simp [h2])]
      · rw [if_neg h2, pkL_append, pick_out hx]
        simp only [pkL, ih [] (AllS.nil _), List.nil_append]
        by_cases ho : okS m.sg = true
        · rw [if_pos ⟨h1, ho⟩, if_pos ⟨h2, ho⟩]
        · rw [if_neg (fun h => ho h.2), if_neg (fun h => ho h.2)]
theorem inv_new (l : List Mk) : ∀ x, AllS 43 x → pkL 45 (invG x l) = pkL 45 x ++ pkL 43 l := by
  induction l with
  | nil => intro x hx; simp [invG, pkL]
  | cons m l ih =>
    intro x hx
    simp only [invG]
    by_cases h1 : m.sg = 43
    · rw [if_pos h1]
      simp only [pkL, ih x hx]
      rw [if_neg (by simp), if_neg (by simp [h1])]
    · rw [if_neg h1]
      by_cases h2 : m.sg = 45
      · rw [if_pos h2, ih _ (hx.snoc _), pkL_append]
        simp only [pkL]
        rw [if_pos ⟨by decide, by decide⟩, if_pos ⟨h1, by rw [h2]; decide⟩]
        simp
      · rw [if_neg h2, pkL_append]
        simp only [pkL, ih [] (AllS.nil _), List.nil_append]
        by_cases ho : okS m.sg = true
        · rw [if_pos ⟨h2, ho⟩, if_pos ⟨h1, ho⟩]
        · rw [if_neg (fun h => ho h.2), if_neg (fun h => ho h.2)]
theorem invH_old (h : Hk) : oldL (invH h) = newL h := inv_old h.ls [] (AllS.nil _)
theorem invH_new (h : Hk) : newL (invH h) = oldL h := inv_new h.ls [] (AllS.nil _)

/-- in each piece the lines that are taken out stand first; s: one that is put in stands ahead -/
def Nf : Bool → List Mk → Prop
  | _, [] => True
  | s, m :: l => if m.sg = 45 then s = false ∧ Nf false l else if m.sg = 43 then Nf true l else Nf false l
theorem nf_added {x : List Mk} (hx : AllS 43 x) (t : List Mk) (ht : ∀ s, Nf s t) : ∀ s, Nf s (x ++ t) := by
  induction x with
  | nil => exact ht
  | cons m x ih =>
    intro s
    have hm := hx m (by simp)
    simp only [List.cons_append, Nf]
    rw [if_neg (by omega), if_pos hm]
    exact ih (fun q hq => hx q (by simp [hq])) _
theorem nf_inv (l : List Mk) : ∀ x, AllS 43 x → Nf false (invG x l) := by
  induction l with
  | nil =>
    intro x hx
    have := nf_added hx [] (fun s => by simp [Nf]) false
    simpa [invG] using this
  | cons m l ih =>
    intro x hx
    simp only [invG]
    by_cases h1 : m.sg = 43
    · rw [if_pos h1]
      simp only [Nf]
      simp only [if_true, true_and]
      exact ih x hx
    · rw [if_neg h1]
      by_cases h2 : m.sg = 45
      · rw [if_pos h2]
        exact ih _ (hx.snoc _)
      · rw [if_neg h2]
        refine nf_added hx _ (fun s => ?_) false
        simp only [Nf]
        rw [if_neg h2, if_neg h1]
        exact ih [] (AllS.nil _)
/-- signs turned -/
def tu (s : Int) (m : Mk) : Mk := ⟨s, m.tx⟩
theorem inv_rem {R : List Mk} (hR : AllS 45 R) : ∀ (x t : List Mk), invG x (R ++ t) = invG (x ++ R.map (tu 43)) t := by
  induction R with
  | nil => intro x t; simp
  | cons m R ih =>
    intro x t
    have hm := hR m (by simp)
    simp only [List.cons_append, invG]
    rw [if_neg (by omega), if_pos hm, ih fun q hq => hR q (by simp [hq])]
    simp [tu]
theorem inv_add {A : List Mk} (hA : AllS 43 A) : ∀ (x t : List Mk), invG x (A ++ t) = A.map (tu 45) ++ invG x t := by
  induction A with
  | nil => intro x t; simp
  | cons m A ih =>
    intro x t
    have hm := hA m (by simp)
    simp only [List.cons_append, invG]
    rw [if_pos hm, ih fun q hq => hA q (by simp [hq])]
    simp [tu]
theorem tu_back {s : Int} {X : List Mk} (h : AllS s X) (s' : Int) : (X.map (tu s')).map (tu s) = X := by
  induction X with
  | nil => rfl
  | cons m X ih =>
    have hm := h m (by simp)
    simp only [List.map_cons]
    rw [ih fun q hq => h q (by simp [hq])]
    simp [tu, ← hm]
theorem allS_tu (s : Int) (X : List Mk) : AllS s (X.map (tu s)) := by
  intro m hm
  simp at hm
  obtain ⟨q, _, rfl⟩ := hm
  rfl
theorem nf_true {l : List Mk} (h : Nf true l) : ∃ A t, l = A ++ t ∧ AllS 43 A ∧ (t = [] ∨ ∃ m r, t = m :: r ∧ m.sg ≠ 43 ∧ m.sg ≠ 45 ∧ Nf false r) := by
  induction l with
  | nil => exact ⟨[], [], rfl, AllS.nil _, .inl rfl⟩
  | cons m l ih =>
    simp only [Nf] at h
    by_cases h2 : m.sg = 45
    · rw [if_pos h2] at h
      exact absurd h.1 (by simp)
    · rw [if_neg h2] at h
      by_cases h1 : m.sg = 43
      · rw [if_pos h1] at h
        obtain ⟨A, t, rfl, hA, ht⟩ := ih h
        refine ⟨m :: A, t, rfl, ?_, ht⟩
        intro q hq
        simp at hq
        rcases hq with rfl | hq
        · exact h1
        · exact hA q hq
      · rw [if_neg h1] at h
        exact ⟨[], m :: l, rfl, AllS.nil _, .inr ⟨m, l, rfl, h1, h2, h⟩⟩
theorem nf_false {l : List Mk} (h : Nf false l) : ∃ R A t, l = R ++ (A ++ t) ∧ AllS 45 R ∧ AllS 43 A ∧ (t = [] ∨ ∃ m r, t = m :: r ∧ m.sg ≠ 43 ∧ m.sg ≠ 45 ∧ Nf false r) := by
  induction l with
  | nil => exact ⟨[], [], [], rfl, AllS.nil _, AllS.nil _, .inl rfl⟩
  | cons m l ih =>
    simp only [Nf] at h
    by_cases h2 : m.sg = 45
    · rw [if_pos h2] at h
      obtain ⟨R, A, t, rfl, hR, hA, ht⟩ := ih h.2
      refine ⟨m :: R, A, t, rfl, ?_, hA, ht⟩
      intro q hq
      simp at hq
      rcases hq with rfl | hq
      · exact h2
      · exact hR q hq
    · rw [if_neg h2] at h
      by_cases h1 : m.sg = 43
      · rw [if_pos h1] at h
        obtain ⟨A, t, rfl, hA, ht⟩ := nf_true h
        refine ⟨[], m :: A, t, rfl, AllS.nil _, ?_, ht⟩
        intro q hq
        simp at hq
        rcases hq with rfl | hq
        · exact h1
        · exact hA q hq
      · rw [if_neg h1] at h
        exact ⟨[], [], m :: l, rfl, AllS.nil _, AllS.nil _, .inr ⟨m, l, rfl, h1, h2, h⟩⟩
theorem inv_inv_nf (n : Nat) : ∀ l : List Mk, l.length ≤ n → Nf false l → invG [] (invG [] l) = l := by
  induction n with
  | zero =>
    intro l hl _
    cases l with
    | nil => rfl
    | cons => simp at hl
  | succ n ih =>
    intro l hl h
    obtain ⟨R, A, t, rfl, hR, hA, ht⟩ := nf_false h
    have e1 : invG [] (R ++ (A ++ t)) = A.map (tu 45) ++ invG (R.map (tu 43)) t := by
      rw [inv_rem hR, inv_add hA]
      simp
    rw [e1, inv_rem (allS_tu 45 A)]
    rcases ht with rfl | ⟨m, r, rfl, h1, h2, hr⟩
    · have e2 : invG (R.map (tu 43)) [] = R.map (tu 43) ++ [] := by simp [invG]
      rw [e2, inv_add (allS_tu 43 R), tu_back hR, List.nil_append, tu_back hA]
      simp [invG]
    · have e2 : invG (R.map (tu 43)) (m :: r) = R.map (tu 43) ++ (m :: invG [] r) := by
        simp only [invG]
        rw [if_neg h1, if_neg h2]
      rw [e2, inv_add (allS_tu 43 R), tu_back hR, List.nil_append, tu_back hA]
      simp only [invG]
      rw [if_neg h1, if_neg h2, ih r (by simp at hl; omega) hr]
theorem invH_nf {h : Hk} (hn : Nf false h.ls) : invH (invH h) = h := by
  obtain ⟨A, AN, B, BN, ls⟩ := h
  simp only [invH]
  rw [inv_inv_nf ls.length ls (Nat.le_refl _) hn]
/-- going back twice, once it was gone back -/
theorem invH_four (h : Hk) : invH (invH (invH (invH h))) = invH (invH h) := invH_nf (nf_inv _ [] (AllS.nil _))

/-- all but the last have their line feed -/
def abl : List (List UInt8) → Bool
  | [] => true
  | t :: r => (r.isEmpty || fdB t) && abl r
theorem lst_pick {no s : Int} (hn : no = 43 ∧ s = 45 ∨ no = 45 ∧ s = 43) {l : List Mk} (h : ∀ m ∈ l, okS m.sg = true) : lstB s l = (pkL no l).isEmpty := by
  induction l with
  | nil => rfl
  | cons m l ih =>
    have hm := h m (by simp)
    have hi := ih fun q hq => h q (by simp [hq])
    simp only [lstB, List.all_cons, pkL] at hi ⊢
    rw [hi]
    have hcase : m.sg = 32 ∨ m.sg = 45 ∨ m.sg = 43 := by simp [okS] at hm; omega
    by_cases hno : m.sg = no
    · rw [if_neg (fun q => q.1 hno)]
      have e1 : decide (m.sg ≠ s) = true := decide_eq_true (by omega)
      have e2 : decide (m.sg ≠ 32) = true := decide_eq_true (by omega)
      rw [e1, e2]
      simp
    · rw [if_pos ⟨hno, hm⟩]
      have e : (decide (m.sg ≠ s) && decide (m.sg ≠ 32)) = false := by simp; omega
      rw [e]
      simp
/-- lines are as they must be -/
theorem fld_iff (l : List Mk) : fldB l = true ↔ (∀ m ∈ l, linB m.tx = true ∧ okS m.sg = true) ∧ abl (pkL 43 l) = true ∧ abl (pkL 45 l) = true := by
  induction l with
  | nil => simp [fldB, pkL, abl]
  | cons m l ih =>
    simp only [fldB, Bool.and_eq_true, ih]
    constructor
    · rintro ⟨⟨⟨h1, h2⟩, h3⟩, h4, h5, h6⟩
      have hok : ∀ q ∈ l, okS q.sg = true := fun q hq => (h4 q hq).2
      rw [lst_pick (no := 43) (by omega) hok, lst_pick (no := 45) (by omega) hok] at h3
      refine ⟨?_, ?_, ?_⟩
      · intro q hq
        simp at hq
        rcases hq with rfl | hq
        · exact ⟨h1, h2⟩
        · exact h4 q hq
      · simp only [pkL]
        by_cases hs : m.sg = 43
        · rw [if_neg (fun q => q.1 hs)]
          exact h5
        · rw [if_pos ⟨hs, h2⟩]
          simp only [abl, h5, Bool.and_true]
          simp [hs] at h3
          rcases h3 with h3 | h3
          · simp [h3]
          · simp [h3.1]
      · simp only [pkL]
        by_cases hs : m.sg = 45
        · rw [if_neg (fun q => q.1 hs)]
          exact h6
        · rw [if_pos ⟨hs, h2⟩]
          simp only [abl, h6, Bool.and_true]
          simp [hs] at h3
          rcases h3 with h3 | h3
          · simp [h3]
          · simp [h3.2]
    · rintro ⟨h1, h2, h3⟩
      have hm := h1 m (by simp)
      have h4 : ∀ q ∈ l, linB q.tx = true ∧ okS q.sg = true := fun q hq => h1 q (by simp [hq])
      have hok : ∀ q ∈ l, okS q.sg = true := fun q hq => (h4 q hq).2
      rw [lst_pick (no := 43) (by omega) hok, lst_pick (no := 45) (by omega) hok]
      simp only [pkL] at h2 h3
      refine ⟨⟨hm, ?_⟩, h4, ?_, ?_⟩
      · by_cases hs : m.sg = 43
        · rw [if_pos ⟨by omega, hm.2⟩] at h3
          simp only [abl, Bool.and_eq_true, Bool.or_eq_true] at h3
          rcases h3.1 with q | q
          · simp [hs, q]
          · simp [q]
        · rw [if_pos ⟨hs, hm.2⟩] at h2
          simp only [abl, Bool.and_eq_true, Bool.or_eq_true] at h2
          by_cases hr : m.sg = 45
          · rcases h2.1 with q | q
            · simp [hr, q]
            · simp [q]
          · rw [if_pos ⟨hr, hm.2⟩] at h3
            simp only [abl, Bool.and_eq_true, Bool.or_eq_true] at h3
            rcases h2.1 with q | q
            · rcases h3.1 with q' | q'
              · simp [q, q']
              · simp [q']
            · simp [q]
      · by_cases hs : m.sg = 43
        · rw [if_neg (fun q => q.1 hs)] at h2
          exact h2
        · rw [if_pos ⟨hs, hm.2⟩] at h2
          simp only [abl, Bool.and_eq_true] at h2
          exact h2.2
      · by_cases hs : m.sg = 45
        · rw [if_neg (fun q => q.1 hs)] at h3
          exact h3
        · rw [if_pos ⟨hs, hm.2⟩] at h3
          simp only [abl, Bool.and_eq_true] at h3
          exact h3.2
/-- what is true of the lines, whatever their sign of the three, is true of those that go back -/
theorem inv_each {P : Mk → Prop} (hP : ∀ t : List UInt8, P ⟨43, t⟩ ↔ P ⟨45, t⟩) (l : List Mk) : ∀ x, (∀ m ∈ invG x l, P m) ↔ (∀ m ∈ x, P m) ∧ ∀ m ∈ l, P m := by
  induction l with
  | nil => intro x; simp [invG]
  | cons m l ih =>
    intro x
    simp only [invG]
    obtain ⟨s, t⟩ := m
    dsimp only
    by_cases h1 : s = 43
    · subst h1
      rw [if_pos rfl]
      simp only [List.mem_cons, forall_eq_or_imp, ih, hP]
      constructor
      · rintro ⟨a, b, c⟩; exact ⟨b, a, c⟩
      · rintro ⟨b, a, c⟩; exact ⟨a, b, c⟩
    · rw [if_neg h1]
      by_cases h2 : s = 45
      · subst h2
        rw [if_pos rfl, ih]
        constructor
        · rintro ⟨a, b⟩
          refine ⟨fun m hm => a m (List.mem_append_left _ hm), fun m hm => ?_⟩
          rcases List.mem_cons.1 hm with rfl | hm
          · exact (hP t).1 (a _ (List.mem_append_right _ (List.mem_cons_self ..)))
          · exact b m hm
        · rintro ⟨a, b⟩
          refine ⟨fun m hm => ?_, fun m hm => b m (List.mem_cons_of_mem _ hm)⟩
          rcases List.mem_append.1 hm with hm | hm
          · exact a m hm
          · rw [List.mem_singleton.1 hm]
            exact (hP t).2 (b _ (List.mem_cons_self ..))
      · rw [if_neg h2]
        have hr := ih []
        constructor
        · intro a
          have h3 := hr.1 fun m hm => a m (List.mem_append_right _ (List.mem_cons_of_mem _ hm))
          refine ⟨fun m hm => a m (List.mem_append_left _ hm), fun m hm => ?_⟩
          rcases List.mem_cons.1 hm with rfl | hm
          · exact a _ (List.mem_append_right _ (List.mem_cons_self ..))
          · exact h3.2 m hm
        · rintro ⟨a, b⟩ m hm
          rcases List.mem_append.1 hm with hm | hm
          · exact a m hm
          · rcases List.mem_cons.1 hm with rfl | hm
            · exact b _ (List.mem_cons_self ..)
            · exact hr.2 ⟨fun _ h => (by cases h), fun q hq => b q (List.mem_cons_of_mem _ hq)⟩ m hm
theorem inv_fld (l : List Mk) : fldB (invG [] l) = fldB l := by
  have key : fldB (invG [] l) = true ↔ fldB l = true := by
    rw [fld_iff, fld_iff, inv_old l [] (AllS.nil _), inv_new l [] (AllS.nil _), inv_each (P := fun m => linB m.tx = true ∧ okS m.sg = true) (fun t => by simp [okS]) l []]
    simp only [List.not_mem_nil, false_implies, implies_true, true_and, pkL, List.nil_append]
    constructor
    · rintro ⟨a, b, c⟩; exact ⟨a, c, b⟩
    · rintro ⟨a, b, c⟩; exact ⟨a, c, b⟩
  cases h1 : fldB (invG [] l) <;> cases h2 : fldB l <;> simp_all
theorem inv_all (l : List Mk) : (invG [] l).all (fun m => decide (m.sg = 32)) = l.all (fun m => decide (m.sg = 32)) := by
  have key : (invG [] l).all (fun m => decide (m.sg = 32)) = true ↔ l.all (fun m => decide (m.sg = 32)) = true := by
    have h := inv_each (P := fun m => m.sg = 32) (fun t => by simp) l []
    simp only [List.not_mem_nil, false_implies, implies_true, true_and] at h
    simpa using h
  cases h1 : (invG [] l).all (fun m => decide (m.sg = 32)) <;> cases h2 : l.all (fun m => decide (m.sg = 32)) <;> simp_all
theorem rng_inv (h : Hk) : rngB (invH h) = rngB h := by
  show (nat31 h.B && nat31 h.BN && nat31 h.A && nat31 h.AN && !(decide (h.B = 0) && decide (0 < h.BN)) && !(decide (h.A = 0) && decide (0 < h.AN))) = (nat31 h.A && nat31 h.AN && nat31 h.B && nat31 h.BN && !(decide (h.A = 0) && decide (0 < h.AN)) && !(decide (h.B = 0) && decide (0 < h.BN)))
  generalize (decide (h.A = 0) && decide (0 < h.AN)) = p
  generalize (decide (h.B = 0) && decide (0 < h.BN)) = q
  cases nat31 h.A <;> cases nat31 h.AN <;> cases nat31 h.B <;> cases nat31 h.BN <;> cases p <;> cases q <;> rfl
/-- a hunk is right just if the one that goes back is -/
theorem chk_inv (h : Hk) : chkH (invH h) = 0 ↔ chkH h = 0 := by
  simp only [chkH, rng_inv]
  have e1 : fldB (invH h).ls = fldB h.ls := inv_fld h.ls
  have e2 : (invH h).ls.all (fun m => decide (m.sg = 32)) = h.ls.all (fun m => decide (m.sg = 32)) := inv_all h.ls
  rw [e1, e2, invH_old, invH_new]
  have e3 : (invH h).AN = h.BN := rfl
  have e4 : (invH h).BN = h.AN := rfl
  rw [e3, e4]
  by_cases h1 : rngB h = false
  · simp [h1]
  · by_cases h2 : fldB h.ls = false
    · simp [h1, h2]
    · by_cases h3 : h.AN = (oldL h).length <;> by_cases h4 : h.BN = (newL h).length <;> simp [h1, h2, h3, h4]
end Go.Proofs.YtgckcbcdmmnkoaaGreatDoor

/- Hunks that are made of two texts: where they stand, their old and new lines, that they are in order and are the script again; plain mathematics. -/
set_option maxRecDepth 20000
namespace Go.Proofs.YtgckcbcdmmnkoaaGreatDoor

theorem hcut_length {A : List (List UInt8)} {p k : Int} (hp : 0 ≤ p) (hk : 0 ≤ k) (h : p + k ≤ A.length) : ((cut A p k).length : Int) = k := by
  simp only [cut, List.length_take, List.length_drop]
  omega
theorem cut_cat {A : List (List UInt8)} {p i j : Int} (hp : 0 ≤ p) (hi : 0 ≤ i) (hj : 0 ≤ j) : cut A p i ++ cut A (p + i) j = cut A p (i + j) := by
  simp only [cut]
  rw [show (p + i).toNat = p.toNat + i.toNat by omega, show (i + j).toNat = i.toNat + j.toNat by omega, ← List.drop_drop, List.take_add]
theorem cut_cat2 {A : List (List UInt8)} {p i x j k : Int} (hp : 0 ≤ p) (hi : 0 ≤ i) (hj : 0 ≤ j) (hx : x = p + i) (hk : k = i + j) : cut A p i ++ cut A x j = cut A p k := by
  rw [hx, hk]
  exact cut_cat hp hi hj
theorem cut_zero (A : List (List UInt8)) (p : Int) : cut A p 0 = [] := by simp [cut]

/-- where a group ends in both texts -/
def endA : Int → List Ch → Int
  | p, [] => p
  | _, c :: g => endA (c.A + c.AN) g
def endB : Int → List Ch → Int
  | q, [] => q
  | _, c :: g => endB (c.B + c.BN) g
theorem endA_append (p : Int) (g h : List Ch) : endA p (g ++ h) = endA (endA p g) h := by
  induction g generalizing p with
  | nil => rfl
  | cons c g ih => exact ih _
theorem endB_append (p : Int) (g h : List Ch) : endB p (g ++ h) = endB (endB p g) h := by
  induction g generalizing p with
  | nil => rfl
  | cons c g ih => exact ih _
theorem endH_eq (n ctx : Int) (f : Ch) (g : List Ch) (p : Int) : endH n ctx (f :: g) = min n (endA p (f :: g) + ctx) := by
  induction g generalizing f p with
  | nil => rfl
  | cons d g ih => exact ih d 0
theorem right_end {fl : Bool} {p q n m : Int} {g rest : List Ch} (h : Right fl p q n m (g ++ rest)) : (Right false (endA p g) (endB q g) n m rest ∨ g = []) ∧ p ≤ endA p g ∧ q ≤ endB q g ∧ endA p g ≤ n ∧ endB q g ≤ m := by
  induction g generalizing fl p q with
  | nil =>
    have := h.le
    exact ⟨.inr rfl, Int.le_refl _, Int.le_refl _, this.1, this.2.1⟩
  | cons c g ih =>
    obtain ⟨⟨h1, h2, h3, h4⟩, h5⟩ := h
    rw [numB_iff] at h1
    obtain ⟨k1, k2, k3, k4, k5⟩ := ih h5
    refine ⟨.inl ?_, ?_, ?_, k4, k5⟩
    · rcases k1 with k1 | rfl
      · exact k1
      · exact h5
    · show p ≤ endA (c.A + c.AN) g
      omega
    · show q ≤ endB (c.B + c.BN) g
      omega
/-- what lies behind a group: as far in one text as in the other -/
theorem right_tail {fl : Bool} {p q n m : Int} {rest : List Ch} (h : Right fl p q n m rest) {e : Int} (he : e ≤ (rest.head?.map (·.A)).getD n) : q + (e - p) ≤ m := by
  cases rest with
  | nil =>
    obtain ⟨h1, h2, h3⟩ := h
    simp at he
    omega
  | cons c rest =>
    obtain ⟨⟨h1, h2, h3, h4⟩, h5⟩ := h
    rw [numB_iff] at h1
    have := h5.le
    simp at he
    omega
/-- the old lines of a group's hunk -/
theorem body_old {a b : List (List UInt8)} {fl : Bool} {p q m e : Int} {g rest : List Ch} (h : Right fl p q a.length m (g ++ rest)) (hp : 0 ≤ p) (he : endA p g ≤ e) : pkL 43 (bodyH a b e p g) = cut a p (e - p) := by
  induction g generalizing fl p q with
  | nil => exact pick_mks_same 43 (.inl rfl) _
  | cons c g ih =>
    obtain ⟨⟨h1, h2, h3, h4⟩, h5⟩ := h
    rw [numB_iff] at h1
    have hi := ih h5 (by omega) he
    have hm := (right_end h5).2.1
    have he' : endA (c.A + c.AN) g ≤ e := he
    simp only [bodyH, pkL_append]
    rw [hi, pick_mks_same 43 (.inl rfl), pick_mks_in 43 45 (by decide) (by decide), pick_mks_out, List.nil_append, cut_cat2 (k := e - c.A) (by omega) (by omega) (by omega) rfl (by omega), cut_cat2 (k := e - p) hp (by omega) (by omega) (by omega) (by omega)]
/-- the new lines of a group's hunk: how many -/
theorem body_new_len {a b : List (List UInt8)} {fl : Bool} {p q e : Int} {g rest : List Ch} (h : Right fl p q a.length b.length (g ++ rest)) (hp : 0 ≤ p) (hq : 0 ≤ q) (he : endA p g ≤ e) (hn : e ≤ a.length) : ((pkL 45 (bodyH a b e p g)).length : Int) = endB q g + (e - endA p g) - q := by
  induction g generalizing fl p q with
  | nil =>
    simp only [bodyH, endA, endB]
    have he' : p ≤ e := he
    rw [pick_mks_same 45 (.inr rfl), hcut_length hp (by omega) (by omega)]
    omega
  | cons c g ih =>
    obtain ⟨⟨h1, h2, h3, h4⟩, h5⟩ := h
    rw [numB_iff] at h1
    have hi := ih h5 (by omega) (by omega) he
    obtain ⟨_, e1, e2, e3, e4⟩ := right_end h5
    have he' : endA (c.A + c.AN) g ≤ e := he
    have x1 := hcut_length (A := a) (p := p) (k := c.A - p) hp (by omega) (by omega)
    have x2 := hcut_length (A := b) (p := c.B) (k := c.BN) (by omega) (by omega) (by omega)
    simp only [bodyH, pkL_append, endA, endB]
    rw [pick_mks_same 45 (.inr rfl), pick_mks_in 45 43 (by decide) (by decide), pick_mks_out, List.nil_append]
    simp only [List.length_append]
    omega
/-- which they are, where what is kept is the same -/
theorem body_new {a b : List (List UInt8)} {fl : Bool} {p q e : Int} {g rest : List Ch} (h : Right fl p q a.length b.length (g ++ rest)) (hs : ∀ r ∈ U p q a.length b.length (g ++ rest), a[r.a.toNat]? = b[r.b.toNat]?) (hp : 0 ≤ p) (hq : 0 ≤ q) (he : endA p g ≤ e) (hr : e ≤ (rest.head?.map (·.A)).getD (a.length : Int)) : pkL 45 (bodyH a b e p g) = cut b q (endB q g + (e - endA p g) - q) := by
  induction g generalizing fl p q with
  | nil =>
    simp only [bodyH, endA, endB]
    have he' : p ≤ e := he
    rw [pick_mks_same 45 (.inr rfl)]
    obtain ⟨k, hk⟩ : ∃ k : Nat, e - p = k := ⟨(e - p).toNat, by omega⟩
    rw [hk, show q + (k : Int) - q = k by omega]
    refine cut_eq hp hq fun r hr' => hs r ?_
    cases rest with
    | nil =>
      simp at hr
      rw [List.nil_append, U_nil, show ((a.length : Int) - p).toNat = k + ((a.length : Int) - p - k).toNat by omega, un_append]
      exact List.mem_append_left _ hr'
    | cons c rest =>
      simp at hr
      rw [List.nil_append, U_cons, show (c.A - p).toNat = k + (c.A - p - k).toNat by omega, un_append, List.append_assoc]
      exact List.mem_append_left _ hr'
  | cons c g ih =>
    obtain ⟨⟨h1, h2, h3, h4⟩, h5⟩ := h
    rw [numB_iff] at h1
    rw [List.cons_append, U_cons] at hs
    have hi := ih h5 (fun r hr => hs r (List.mem_append_right _ hr)) (by omega) (by omega) he
    obtain ⟨_, e1, e2, e3, e4⟩ := right_end h5
    have he' : endA (c.A + c.AN) g ≤ e := he
    simp only [bodyH, pkL_append, endA, endB]
    rw [pick_mks_same 45 (.inr rfl), pick_mks_in 45 43 (by decide) (by decide), pick_mks_out, List.nil_append, hi]
    obtain ⟨k, hk⟩ : ∃ k : Nat, c.A - p = k := ⟨(c.A - p).toNat, by omega⟩
    rw [hk, Int.toNat_natCast] at hs
    rw [hk, cut_eq hp hq fun r hr => hs r (List.mem_append_left _ hr), cut_cat2 (k := endB (c.B + c.BN) g + (e - endA (c.A + c.AN) g) - c.B) (by omega) (by omega) (by omega) rfl (by omega), cut_cat2 (k := endB (c.B + c.BN) g + (e - endA (c.A + c.AN) g) - q) hq (by omega) (by omega) (by omega) (by omega)]
/-- a script gone on from a place further on in what is kept -/
theorem right_shift {fl : Bool} {p q n m x y : Int} {c : Ch} {l : List Ch} (h : Right fl p q n m (c :: l)) (h1 : p ≤ x) (h2 : x ≤ c.A) (h3 : y - x = q - p) : Right true x y n m (c :: l) ∧ ∀ r ∈ U x y n m (c :: l), r ∈ U p q n m (c :: l) := by
  obtain ⟨⟨k1, k2, k3, k4⟩, k5⟩ := h
  refine ⟨⟨⟨k1, by omega, by omega, .inl rfl⟩, k5⟩, fun r hr => ?_⟩
  rw [U_cons] at hr ⊢
  rw [show (c.A - p).toNat = (x - p).toNat + (c.A - x).toNat by omega, un_append, List.append_assoc, show p + ((x - p).toNat : Int) = x by omega, show q + ((x - p).toNat : Int) = y by omega]
  exact List.mem_append_right _ hr

/-- groups between which more than twice so many lines are kept -/
def Hgs (ctx : Int) : List (List Ch) → Prop
  | [] => True
  | g :: gs => g ≠ [] ∧ (∀ d, gs.flatten.head? = some d → 2 * ctx < d.A - endA 0 g) ∧ Hgs ctx gs
theorem grp_gs (ctx : Int) (l : List Ch) : Hgs ctx (grp ctx l) := by
  induction l with
  | nil => trivial
  | cons c l ih =>
    cases l with
    | nil => exact ⟨by simp, fun d hd => (by cases hd), trivial⟩
    | cons d l =>
      obtain ⟨g, gs, h1, h2⟩ := grp_cons2 ctx c d l
      rw [h1] at ih
      rw [h2]
      obtain ⟨_, k2, k3⟩ := ih
      split
      · exact ⟨by simp, k2, k3⟩
      · refine ⟨by simp, ?_, by simp, k2, k3⟩
        intro x hx
        simp at hx
        subst hx
        simp only [endA]
        omega
/-- what a group's hunk is, from where it stands on: s, t its places, e its end -/
structure OneF (a b : List (List UInt8)) (ctx : Int) (g : List Ch) (s t e : Int) : Prop where
  s0 : 0 ≤ s
  t0 : 0 ≤ t
  en : e ≤ a.length
  em : endB 0 g + (e - endA 0 g) ≤ b.length
  le : endA 0 g ≤ e
  se : s ≤ e
  AN : (oneH a b ctx g).AN = e - s
  BN : (oneH a b ctx g).BN = endB 0 g + (e - endA 0 g) - t
  A : (oneH a b ctx g).A = if 0 < e - s then s + 1 else s
  B : (oneH a b ctx g).B = if 0 < endB 0 g + (e - endA 0 g) - t then t + 1 else t
  old : oldL (oneH a b ctx g) = cut a s (e - s)
  ls : (oneH a b ctx g).ls = bodyH a b e s g
/-- the group ahead, and all behind it -/
theorem one_facts {a b : List (List UInt8)} {ctx p q : Int} {fl : Bool} {f : Ch} {g rest : List Ch} (hc : 0 ≤ ctx) (h : Right fl p q a.length b.length (f :: g ++ rest)) (hp : 0 ≤ p) (hq : 0 ≤ q) (hw : p ≤ f.A - min ctx f.A)
    (hr : ∀ d, rest.head? = some d → endA 0 (f :: g) + ctx ≤ d.A) :
    OneF a b ctx (f :: g) (f.A - min ctx f.A) (f.B - min ctx f.A) (min a.length (endA 0 (f :: g) + ctx)) ∧ Right true (f.A - min ctx f.A) (f.B - min ctx f.A) a.length b.length (f :: g ++ rest) ∧ (∀ r ∈ U (f.A - min ctx f.A) (f.B - min ctx f.A) a.length b.length (f :: g ++ rest), r ∈ U p q a.length b.length (f :: g ++ rest)) ∧ (min (a.length : Int) (endA 0 (f :: g) + ctx) ≤ (rest.head?.map (·.A)).getD (a.length : Int)) := by
  have hA : f.A - p = f.B - q := h.1.2.1
  have hnum := (numB_iff f).1 h.1.1
  obtain ⟨hR, hU⟩ := right_shift h hw (by omega) (show (f.B - min ctx f.A) - (f.A - min ctx f.A) = q - p by omega)
  obtain ⟨k1, k2, k3, k4, k5⟩ := right_end (g := f :: g) (rest := rest) hR
  have k1' : Right false (endA 0 (f :: g)) (endB 0 (f :: g)) a.length b.length rest := by
    rcases k1 with k1 | k1
    · exact k1
    · cases k1
  have hE : min (a.length : Int) (endA 0 (f :: g) + ctx) ≤ (rest.head?.map (·.A)).getD (a.length : Int) := by
    cases rest with
    | nil => simp; omega
    | cons d rest =>
      have := hr d rfl
      simp
      omega
  have e0 : endA (f.A - min ctx f.A) (f :: g) = endA 0 (f :: g) := rfl
  have e0' : endB (f.B - min ctx f.A) (f :: g) = endB 0 (f :: g) := rfl
  rw [e0] at k2 k4
  rw [e0'] at k3 k5
  have hem := right_tail k1' hE
  have hls : (oneH a b ctx (f :: g)).ls = bodyH a b (min (a.length : Int) (endA 0 (f :: g) + ctx)) (f.A - min ctx f.A) (f :: g) := by
    show bodyH a b (endH a.length ctx (f :: g)) (f.A - min ctx f.A) (f :: g) = _
    rw [endH_eq _ _ _ _ 0]
  generalize hee : min (a.length : Int) (endA 0 (f :: g) + ctx) = e at *
  have he : endA 0 (f :: g) ≤ e := by omega
  have hold := body_old (a := a) (b := b) (g := f :: g) (rest := rest) (e := e) hR (by omega) he
  have hnew := body_new_len (a := a) (b := b) (g := f :: g) (rest := rest) (e := e) hR (by omega) (by omega) he (by omega)
  rw [e0, e0'] at hnew
  have hol := hcut_length (A := a) (p := f.A - min ctx f.A) (k := e - (f.A - min ctx f.A)) (by omega) (by omega) (by omega)
  have hone : oneH a b ctx (f :: g) = cntH (f.A - min ctx f.A) (f.B - min ctx f.A) (bodyH a b e (f.A - min ctx f.A) (f :: g)) := by
    show cntH _ _ (bodyH a b (endH a.length ctx (f :: g)) _ _) = _
    rw [endH_eq _ _ _ _ 0, hee]
  refine ⟨⟨by omega, by omega, by omega, by omega, he, by omega, ?_, ?_, ?_, ?_, ?_, hls⟩, hR, hU, hE⟩
  · rw [hone]
    show ((pkL 43 (bodyH a b e _ (f :: g))).length : Int) = _
    rw [hold, hol]
  · rw [hone]
    exact hnew
  · rw [hone]
    show (if 0 < (pkL 43 (bodyH a b e _ (f :: g))).length then _ else _) = _
    rw [hold]
    by_cases hz : 0 < e - (f.A - min ctx f.A)
    · rw [if_pos (by omega), if_pos hz]
    · rw [if_neg (by omega), if_neg hz]
  · rw [hone]
    show (if 0 < (pkL 45 (bodyH a b e _ (f :: g))).length then _ else _) = _
    by_cases hz : 0 < endB 0 (f :: g) + (e - endA 0 (f :: g)) - (f.B - min ctx f.A)
    · rw [if_pos (by omega), if_pos hz]
    · rw [if_neg (by omega), if_neg hz]
  · rw [hone]
    exact hold
end Go.Proofs.YtgckcbcdmmnkoaaGreatDoor

/- The reference's one of layer 11, walked. -/
set_option maxRecDepth 20000
namespace Go.Proofs.YtgckcbcdmmnkoaaGreatDoor
open Go.RowKit

/-- a change in a box -/
def chO (c : Ch) : Obj := .cells #[.int .i64 c.A, .int .i64 c.AN, .int .i64 c.B, .int .i64 c.BN] 56
def Cx (u : World) (b : Nat) (c : Ch) : Prop := u.heap[b]? = some (chO c)
section
variable {u u' : World} {b : Nat} {c : Ch}
theorem Cx.cells (q : Cx u b c) : u.cell? ⟨b, 0, none⟩ = some (.int .i64 c.A) ∧ u.cell? ⟨b, 1, none⟩ = some (.int .i64 c.AN) ∧ u.cell? ⟨b, 2, none⟩ = some (.int .i64 c.B) ∧ u.cell? ⟨b, 3, none⟩ = some (.int .i64 c.BN) := by
  unfold Cx chO at q
  refine ⟨?_, ?_, ?_, ?_⟩ <;> rw [Lib.cell_of_heap q] <;> rfl
theorem Cx.lt (q : Cx u b c) : b < u.heap.size := (Array.getElem?_eq_some_iff.1 q).1
theorem Cx.low (q : Cx u b c) (hg : Below u.heap.size u u') : Cx u' b c := (hg.block b q.lt).trans q
theorem Cx.new (w : World) (c : Ch) : Cx (w.alloc (chO c)) w.heap.size c := _root_.Go.heap_alloc_new w _
end

theorem exec_ixC {u : World} {b off n c i : Nat} (hi : i < n) {op : Oper} (x y : Operand) (ho : op.op = .indexAddr 26 x y) {ev : Operand → Value} (hx : ev x = .slice (some ⟨b, off, none⟩) n c) (hy : ev y = .int .i64 (i : Int)) :
    (execOp ev op).run Tryz.prog u = .ok (.value (.pointer (some ⟨b, off + i * 4, none⟩))) u := by
  have i1 : 0 ≤ (i : Int) := by omega
  have i2 : (i : Int) < (n : Int) := by omega
  simp only [execOp, ho, hx, hy]
  go_simp
theorem exec_ixT {u : World} {b off n c i : Nat} (hi : i < n) {op : Oper} (x y : Operand) (ho : op.op = .indexAddr 22 x y) {ev : Operand → Value} (hx : ev x = .slice (some ⟨b, off, none⟩) n c) (hy : ev y = .int .i64 (i : Int)) :
    (execOp ev op).run Tryz.prog u = .ok (.value (.pointer (some ⟨b, off + i, none⟩))) u := by
  have i1 : 0 ≤ (i : Int) := by omega
  have i2 : (i : Int) < (n : Int) := by omega
  simp only [execOp, ho, hx, hy]
  go_simp
theorem load_tx {u : World} {a : Addr} {s : ByteArray} (h : u.cell? a = some (.string s)) {op : Oper} (x : Operand) (ho : op.op = .load 9 x) {ev : Operand → Value} (hx : ev x = .pointer (some a)) :
    (execOp ev op).run Tryz.prog u = .ok (.value (.string s)) u := by
  simp only [execOp, ho, hx]
  go_simp
/-- the cells of a change in a row -/
def ChAt (u : World) (b o : Nat) (x : Ch) : Prop := u.cell? ⟨b, o, none⟩ = some (.int .i64 x.A) ∧ u.cell? ⟨b, o + 1, none⟩ = some (.int .i64 x.AN) ∧ u.cell? ⟨b, o + 2, none⟩ = some (.int .i64 x.B) ∧ u.cell? ⟨b, o + 3, none⟩ = some (.int .i64 x.BN)
theorem hcell_keep {u u' : World} (hB : Low u u') {q : Addr} {z : Value} (hz : u.cell? q = some z) : u'.cell? q = some z := (World.cell?_of_block (w := u) (Below.block hB _ (World.block_lt_of_cell? _ _ hz))).trans hz
theorem ChAt.low {u u' : World} {b o : Nat} {x : Ch} (h : ChAt u b o x) (hB : Low u u') : ChAt u' b o x := ⟨hcell_keep hB h.1, hcell_keep hB h.2.1, hcell_keep hB h.2.2.1, hcell_keep hB h.2.2.2⟩
theorem load_chR {u : World} {b o : Nat} {h : Ch} (q : ChAt u b o h) {op : Oper} (x : Operand) (ho : op.op = .load 56 x) {ev : Operand → Value} (hx : ev x = .pointer (some ⟨b, o, none⟩)) :
    (execOp ev op).run Tryz.prog u = .ok (.value (chV h)) u := by
  obtain ⟨d0, d1, d2, d3⟩ := q
  unfold chV
  simp only [execOp, ho, hx]
  go_simp
theorem exec_dec {u : World} {n : Nat} (hn : n ≤ 4611686018427387904) {op : Oper} (x y : Operand) (ho : op.op = .binOp .sub 3 x y 3) {ev : Operand → Value} (hx : ev x = .int .i64 ((n + 1 : Nat) : Int)) (hy : ev y = .int .i64 1) :
    (execOp ev op).run Tryz.prog u = .ok (.value (.int .i64 (n : Int))) u := by
  have e : ((n + 1 : Nat) : Int) - 1 = (n : Int) := by omega
  have e3 : IntKind.i64.wrap (n : Int) = (n : Int) := wrap_s (by omega) (by omega)
  have e4 : wrap64 (n : Int) = (n : Int) := by unfold wrap64; omega
  simp only [execOp, ho, hx, hy]
  go_simp
theorem exec_storeCh {u : World} {B : Nat} {c0 c : Ch} (q : Cx u B c0) : ∃ u', Cx u' B c ∧ u.grownBy u' (some B) ∧ ∀ {op : Oper} (x y : Operand) (_ : op.op = .store 56 x y) {ev : Operand → Value} (_ : ev x = .pointer (some ⟨B, 0, none⟩)) (_ : ev y = chV c), (execOp ev op).run Tryz.prog u = .ok .skip u' := by
  obtain ⟨d0, d1, d2, d3⟩ := q.cells
  have f : ∀ j, u.frozen? ⟨B, j, none⟩ = false := fun j => Lib.frozen_of_heap q j
  have f0 := f 0
  have f1 := f 1
  have f2 := f 2
  have f3 := f 3
  refine ⟨(((u.setCell ⟨B, 0, none⟩ (.int .i64 c.A)).setCell ⟨B, 1, none⟩ (.int .i64 c.AN)).setCell ⟨B, 2, none⟩ (.int .i64 c.B)).setCell ⟨B, 3, none⟩ (.int .i64 c.BN), ?_, ?_, ?_⟩
  · have s1 := heap_setCell_same u B 0 _ _ (.int .i64 c.A) q
    have s2 := heap_setCell_same _ B 1 _ _ (.int .i64 c.AN) s1
    have s3 := heap_setCell_same _ B 2 _ _ (.int .i64 c.B) s2
    exact heap_setCell_same _ B 3 _ _ (.int .i64 c.BN) s3
  · exact (((grown_set u B 0 _).trans (grown_set _ B 1 _)).trans (grown_set _ B 2 _)).trans (grown_set _ B 3 _)
  · intro op x y ho ev hx hy
    unfold chV at hy
    simp only [execOp, ho, hx, hy]
    go_simp
theorem Cx.keep {u u' : World} {b : Nat} {c : Ch} (q : Cx u b c) {g : Option Nat} (hg : u.grownBy u' g) (hr : some b ≠ g) : Cx u' b c := (hg.block b q.lt hr).trans q

theorem cut_step {t : List (List UInt8)} {p : Nat} {hi : Int} (h1 : (p : Int) < hi) (h2 : hi ≤ t.length) {s : List UInt8} (hs : t[p]'(by omega) = s) : cut t p (hi - p) = s :: cut t ((p + 1 : Nat) : Int) (hi - ((p + 1 : Nat) : Int)) := by
  simp only [cut, Int.toNat_natCast]
  rw [List.drop_eq_getElem_cons (by omega : p < t.length), hs, show (hi - (p : Int)).toNat = (hi - ((p + 1 : Nat) : Int)).toNat + 1 by omega, List.take_succ_cons]
theorem mks_cons (s : Int) (t : List UInt8) (x : List (List UInt8)) : mks s (t :: x) = ⟨s, t⟩ :: mks s x := rfl

end Go.Proofs.YtgckcbcdmmnkoaaGreatDoor

/- Which lists of changes are edit scripts: the reference's Check, walked. -/
set_option maxRecDepth 20000
namespace Go.Proofs.YtgckcbcdmmnkoaaGreatDoor
open Go.RowKit

end Go.Proofs.YtgckcbcdmmnkoaaGreatDoor

/- The reference's Changes of layer 11, walked. -/
set_option maxRecDepth 20000
namespace Go.Proofs.YtgckcbcdmmnkoaaGreatDoor
open Go.RowKit

/-- a last change whose numbers can be added to -/
def Hhd : List Ch → Prop
  | [] => True
  | c :: _ => (-1 ≤ c.A ∧ 0 ≤ c.AN ∧ c.A + c.AN ≤ 4398046511104) ∧ -1 ≤ c.B ∧ 0 ≤ c.BN ∧ c.B + c.BN ≤ 4398046511104
/-- how many lines hunks have -/
def tot : List Hk → Nat
  | [] => 0
  | h :: l => h.ls.length + tot l
/-- changes backwards as cells -/
def bch (r : List Ch) : List Value := chcells r.reverse
theorem bch_cons (c : Ch) (r : List Ch) : bch (c :: r) = bch r ++ chC c := by simp [bch, chcells]
theorem bch_length (r : List Ch) : (bch r).length = r.length * 4 := by simp [bch, chcells_length]
theorem bch_at (c : Ch) (r : List Ch) : (bch (c :: r))[r.length * 4]? = some (.int .i64 c.A) ∧ (bch (c :: r))[r.length * 4 + 1]? = some (.int .i64 c.AN) ∧ (bch (c :: r))[r.length * 4 + 2]? = some (.int .i64 c.B) ∧ (bch (c :: r))[r.length * 4 + 3]? = some (.int .i64 c.BN) := by
  have hl := bch_length r
  rw [bch_cons]
  refine ⟨?_, ?_, ?_, ?_⟩ <;> rw [List.getElem?_append_right (by omega)] <;> simp [hl, chC]
theorem bch_setA (c : Ch) (r : List Ch) (z : Int) : (bch (c :: r)).set (r.length * 4 + 1) (.int .i64 z) = bch (⟨c.A, z, c.B, c.BN⟩ :: r) := by
  have hl := bch_length r
  rw [bch_cons, bch_cons, List.set_append_right _ _ (by omega)]
  simp [hl, chC]
theorem bch_setB (c : Ch) (r : List Ch) (z : Int) : (bch (c :: r)).set (r.length * 4 + 3) (.int .i64 z) = bch (⟨c.A, c.AN, c.B, z⟩ :: r) := by
  have hl := bch_length r
  rw [bch_cons, bch_cons, List.set_append_right _ _ (by omega)]
  simp [hl, chC]
/-- a row that is not empty: where it lies -/
theorem hown_at {u : World} {B : Nat} {e : TypeId} {s : Nat} {oo : Option Addr} {n oc : Nat} {xs : List Value} (h : u.ownsRow B e s (.slice oo (n + 1) oc) (n + 1) xs) : ∃ g, oo = some ⟨g, 0, none⟩ := by
  rcases h.2 with ⟨_, h0⟩ | ⟨g, cap, cur, e, _⟩
  · omega
  · cases e
    exact ⟨g, rfl⟩
theorem opn_head (a b : Int) (r : List Ch) : ∃ c t, opn a b r = c :: t ∧ c.A + c.AN = a ∧ c.B + c.BN = b := by
  unfold opn
  cases r with
  | nil => exact ⟨_, _, rfl, by simp, by simp⟩
  | cons c r =>
    by_cases h : endsAt a b (c :: r) = true
    · rw [if_pos h]
      simp only [endsAt, Bool.and_eq_true, decide_eq_true_eq] at h
      exact ⟨c, r, rfl, h.1, h.2⟩
    · rw [if_neg h]
      exact ⟨_, _, rfl, by simp, by simp⟩

end Go.Proofs.YtgckcbcdmmnkoaaGreatDoor

/- The reference's Group of layer 11, walked. -/
set_option maxRecDepth 20000
namespace Go.Proofs.YtgckcbcdmmnkoaaGreatDoor
open Go.RowKit

theorem infoCs : (Tryz.prog.info? 26).map (fun i => (i.zero, i.size, i.bytes)) = some (some (.slice none 0 0), 1, 24) := by kernel_rfl
/-- groups of one's own: a row of rows of changes -/
structure Gr (w : World) (ov : Value) (G : List (List Ch × Value)) (u : World) : Prop where
  low : Below w.heap.size w u
  own : u.ownsRow w.heap.size 26 1 ov G.length (G.map (·.2))
  ins : ∀ x ∈ G, u.ownsRow w.heap.size 56 4 x.2 x.1.length (chcells x.1)
/-- the last row is none of the others -/
def Lst (G : List (List Ch × Value)) : Prop := ∀ P x, G = P ++ [x] → ∀ y ∈ P, ∀ b, x.2.ownBlock = some b → y.2.ownBlock ≠ some b
section
variable {w u u' : World} {ov ov' : Value} {G P : List (List Ch × Value)}
theorem Gr.nil (w : World) : Gr w (.slice none 0 0) [] w := ⟨Below.refl _ _, hnil_row _ _ _ _, fun _ h => by cases h⟩
theorem Gr.alloc (h : Gr w ov G u) (o : Obj) : Gr w ov G (u.alloc o) := ⟨h.low.alloc h.low.size o, h.own.alloc o, fun x hx => (h.ins x hx).alloc o⟩
theorem Gr.drewN (h : Gr w ov G u) (n : Nat) : Gr w ov G (u.drewN n) := ⟨Below.dN h.low n, h.own, h.ins⟩
theorem Gr.keep (h : Gr w ov G u) (hk : Below u.heap.size u u') : Gr w ov G u' := ⟨h.low.trans (hk.mono h.low.size), owns_keep h.own hk, fun x hx => owns_keep (h.ins x hx) hk⟩
/-- a group more -/
theorem Gr.more (h : Gr w ov G u) {g : List Ch} {gv : Value} (hgv : u.ownsRow w.heap.size 56 4 gv g.length (chcells g)) (hg : u.grownBy u' ov.ownBlock) (ho : u'.ownsRow w.heap.size 26 1 ov' (G.length + 1) (G.map (·.2) ++ [gv])) : Gr w ov' (G ++ [(g, gv)]) u' := by
  have key : ∀ {v : Value} {n : Nat} {xs : List Value}, u.ownsRow w.heap.size 56 4 v n xs → u'.ownsRow w.heap.size 56 4 v n xs := fun hv => own_kept hv hg (fun k hk => own_ne h.own hv (by decide) hk)
  refine ⟨h.low.grown hg h.low.size (fun j hj => owns_ge h.own hj), ?_, fun z hz => ?_⟩
  · rw [List.length_append, List.map_append]
    exact ho
  · rcases List.mem_append.1 hz with hz | hz
    · exact key (h.ins z hz)
    · rw [List.mem_singleton.1 hz]
      exact key hgv
/-- the last group, longer: its row has grown, and the row of rows names it -/
theorem Gr.last {g g' : List Ch} {gv gv' : Value} (h : Gr w ov (P ++ [(g, gv)]) u) (hL : Lst (P ++ [(g, gv)])) (hg : u.grownBy u' gv.ownBlock) (ho : u'.ownsRow w.heap.size 56 4 gv' g'.length (chcells g')) (hb : gv'.ownBlock = gv.ownBlock ∨ gv'.ownBlock = some u.heap.size) :
    ∃ q cap, ov = .slice (some ⟨q, 0, none⟩) (P.length + 1) cap ∧ u'.cell? ⟨q, P.length, none⟩ = some gv ∧ u'.frozen? ⟨q, P.length, none⟩ = false ∧ Gr w ov (P ++ [(g', gv')]) (u'.setCell ⟨q, P.length, none⟩ gv') ∧ Lst (P ++ [(g', gv')]) := by
  have hown := h.own
  rw [List.length_append, List.length_singleton] at hown
  have hgl := h.ins (g, gv) (by simp)
  obtain ⟨oo, oc, hov⟩ := (holds_of hown).form
  subst hov
  obtain ⟨q, rfl⟩ := hown_at hown
  have hown' := own_kept hown hg (fun k hk => own_ne hgl hown (by decide) hk)
  have hst := hown'.stored P.length gv'
  have hset : ((P ++ [(g, gv)]).map (·.2)).set P.length gv' = (P ++ [(g', gv')]).map (·.2) := by simp
  rw [hset] at hst
  have hlow : Below w.heap.size w u' := h.low.grown hg h.low.size (fun j hj => owns_ge hgl hj)
  refine ⟨q, oc, rfl, ?_, hown'.frozenAt _, ⟨hlow.grown hst.2 hlow.size (fun j hj => by cases hj; exact owns_ge hown rfl), ?_, ?_⟩, ?_⟩
  · rw [hown'.cellAt P.length (by omega)]
    simp
  · rw [List.length_append, List.length_singleton]
    exact hst.1
  · intro x hx
    have hqx : ∀ {v : Value} {n : Nat} {xs : List Value}, u'.ownsRow w.heap.size 56 4 v n xs → (u'.setCell ⟨q, P.length, none⟩ gv').ownsRow w.heap.size 56 4 v n xs := fun hv => own_kept hv hst.2 (fun k hk => own_ne hown' hv (by decide) hk)
    rcases List.mem_append.1 hx with hx | hx
    · exact hqx (own_kept (h.ins x (List.mem_append_left _ hx)) hg (fun k hk => hL P (g, gv) rfl x hx k hk))
    · rw [List.mem_singleton.1 hx]
      exact hqx ho
  · intro P' x' he y hy b' hb'
    have he2 := List.append_inj' he rfl
    obtain ⟨rfl, hx'⟩ := he2
    have hx2 : (g', gv') = x' := by simpa using hx'
    subst hx2
    rcases hb with hb | hb
    · rw [hb] at hb'
      exact hL P (g, gv) rfl y hy b' hb'
    · rw [hb] at hb'
      cases hb'
      intro e
      have := own_lt (h.ins y (List.mem_append_left _ hy)) e
      omega
end
theorem right_nums {fl : Bool} {p q n m : Int} {l : List Ch} (h : Right fl p q n m l) : ∀ c ∈ l, numB c = true := by
  induction l generalizing fl p q with
  | nil => intro c hc; cases hc
  | cons d l ih =>
    intro c hc
    rcases List.mem_cons.1 hc with rfl | hc
    · exact h.1.1
    · exact ih h.2 c hc
theorem exec_ixG {u : World} {b off n c i : Nat} (hi : i < n) {op : Oper} (x y : Operand) (ho : op.op = .indexAddr 65 x y) {ev : Operand → Value} (hx : ev x = .slice (some ⟨b, off, none⟩) n c) (hy : ev y = .int .i64 (i : Int)) :
    (execOp ev op).run Tryz.prog u = .ok (.value (.pointer (some ⟨b, off + i, none⟩))) u := by
  have i1 : 0 ≤ (i : Int) := by omega
  have i2 : (i : Int) < (n : Int) := by omega
  simp only [execOp, ho, hx, hy]
  go_simp
theorem load_chs {u : World} {a : Addr} {o : Option Addr} {n c : Nat} (h : u.cell? a = some (.slice o n c)) {op : Oper} (x : Operand) (ho : op.op = .load 26 x) {ev : Operand → Value} (hx : ev x = .pointer (some a)) :
    (execOp ev op).run Tryz.prog u = .ok (.value (.slice o n c)) u := by
  simp only [execOp, ho, hx]
  go_simp
theorem exec_storeG {u : World} {b j : Nat} (hf : u.frozen? ⟨b, j, none⟩ = false) {o n c} (hc : u.cell? ⟨b, j, none⟩ = some (.slice o n c)) {o' n' c'} {op : Oper} (x y : Operand) (ho : op.op = .store 26 x y) {ev : Operand → Value} (hx : ev x = .pointer (some ⟨b, j, none⟩)) (hy : ev y = .slice o' n' c') :
    (execOp ev op).run Tryz.prog u = .ok .skip (u.setCell ⟨b, j, none⟩ (.slice o' n' c')) := by
  simp only [execOp, ho, hx, hy]
  go_simp
theorem ch_row (w : World) (c : Ch) : Holds (w.alloc (chO c)) (.slice (some ⟨w.heap.size, 0, none⟩) 1 1) 1 (chcells [c]) := new_holds w #[.int .i64 c.A, .int .i64 c.AN, .int .i64 c.B, .int .i64 c.BN] 56 1 1 (by decide)
theorem ch_own (w : World) (B : Nat) (c : Ch) (hB : B ≤ w.heap.size) : (w.alloc (chO c)).ownsRow B 56 4 (.slice (some ⟨w.heap.size, 0, none⟩) 1 1) 1 (chcells [c]) := by
  refine ⟨rfl, .inr ⟨_, 1, #[.int .i64 c.A, .int .i64 c.AN, .int .i64 c.B, .int .i64 c.BN], rfl, hB, _root_.Go.heap_alloc_new w _, Nat.le_refl _, by decide, rfl, rfl⟩⟩
theorem map_split {G : List (List Ch × Value)} {gs : List (List Ch)} {g : List Ch} (h : G.map (·.1) = gs ++ [g]) : ∃ P gv, G = P ++ [(g, gv)] ∧ P.map (·.1) = gs := by
  rcases List.eq_nil_or_concat G with rfl | ⟨P, x, rfl⟩
  · have := congrArg List.length h
    simp at this
  · rw [List.concat_eq_append] at h ⊢
    rw [List.map_append] at h
    have h2 := List.append_inj' h rfl
    obtain ⟨gx, gv⟩ := x
    have h3 : gx = g := by simpa using h2.2
    subst h3
    exact ⟨P, gv, rfl, h2.1⟩

/-- is a change near the one ahead of it? -/
def nrB (ctx : Int) (l : List Ch) (i : Nat) (d : Ch) : Bool := match (l.take i).getLast? with
  | none => false
  | some c => decide (d.A - c.A - c.AN ≤ 2 * ctx)
theorem last_take {l : List Ch} {j : Nat} (hj : j < l.length) : (l.take (j + 1)).getLast? = some l[j] := by
  rw [List.take_succ_eq_append_getElem hj, List.getLast?_append]
  simp
theorem grp_take {ctx : Int} {l : List Ch} {i : Nat} (hi : i < l.length) : (nrB ctx l i l[i] = true → ∃ gs gl, grp ctx (l.take i) = gs ++ [gl] ∧ grp ctx (l.take (i + 1)) = gs ++ [gl ++ [l[i]]]) ∧ (nrB ctx l i l[i] = false → grp ctx (l.take (i + 1)) = grp ctx (l.take i) ++ [[l[i]]]) := by
  cases i with
  | zero =>
    refine ⟨fun h => by simp [nrB] at h, fun _ => ?_⟩
    rw [List.take_succ_eq_append_getElem hi]
    rfl
  | succ j =>
    have e1 : l.take (j + 1) = l.take j ++ [l[j]] := List.take_succ_eq_append_getElem (by omega)
    have e2 : l.take (j + 1 + 1) = l.take j ++ [l[j]] ++ [l[j + 1]] := by rw [List.take_succ_eq_append_getElem hi, e1]
    obtain ⟨gs, g, h1, h2⟩ := grp_snoc ctx (l.take j) l[j] l[j + 1]
    have hn : nrB ctx l (j + 1) l[j + 1] = decide (l[j + 1].A - l[j].A - l[j].AN ≤ 2 * ctx) := by
      unfold nrB
      rw [last_take (by omega)]
    rw [hn, e1, e2, h1, h2]
    refine ⟨fun h => ?_, fun h => ?_⟩
    · rw [if_pos (of_decide_eq_true h)]
      exact ⟨gs, g ++ [l[j]], rfl, rfl⟩
    · rw [if_neg (of_decide_eq_false h)]
theorem lst_more {G : List (List Ch × Value)} {u : World} {w : World} {ov : Value} (h : Gr w ov G u) {g : List Ch} {gv : Value} {b : Nat} (hb : gv.ownBlock = some b) (hs : u.heap.size ≤ b) : Lst (G ++ [(g, gv)]) := by
  intro P' x' he y hy b' hb'
  have he2 := List.append_inj' he rfl
  obtain ⟨rfl, hx'⟩ := he2
  have hx2 : (g, gv) = x' := by simpa using hx'
  subst hx2
  dsimp only at hb'
  rw [hb] at hb'
  cases hb'
  intro e
  have := own_lt (h.ins y hy) e
  omega

end Go.Proofs.YtgckcbcdmmnkoaaGreatDoor

/- The code's small functions of layer 11, walked: the lines of a side, numbers, places, signs. -/
set_option maxRecDepth 20000
namespace Go.Proofs.YtgckcbcdmmnkoaaGreatDoor
open Go.RowKit

/-- which sign a side has, and which it has not -/
def Sd (sg no : Int) : Prop := sg = 45 ∧ no = 43 ∨ sg = 43 ∧ no = 45
theorem sd_iff {sg no : Int} (h : Sd sg no) (s : Int) : (s ≠ no ∧ okS s = true) ↔ (s = 32 ∨ s = sg) := by
  simp only [okS, Bool.or_eq_true, decide_eq_true_eq]
  rcases h with ⟨rfl, rfl⟩ | ⟨rfl, rfl⟩ <;> omega
theorem pk_take {sg no : Int} (h : Sd sg no) {s : Int} (hs : s = 32 ∨ s = sg) {out R : List (List UInt8)} {tx : List UInt8} {l : List Mk} (hI : out ++ (if s ≠ no ∧ okS s = true then tx :: pkL no l else pkL no l) = R) : out ++ [tx] ++ pkL no l = R := by
  rw [if_pos ((sd_iff h s).2 hs)] at hI
  rw [← hI]
  simp
theorem pk_pass {sg no : Int} (h : Sd sg no) {s : Int} (h1 : s ≠ 32) (h2 : s ≠ sg) {out R : List (List UInt8)} {tx : List UInt8} {l : List Mk} (hI : out ++ (if s ≠ no ∧ okS s = true then tx :: pkL no l else pkL no l) = R) : out ++ pkL no l = R := by
  rw [if_neg (fun q => by rcases (sd_iff h s).1 q with q | q <;> contradiction)] at hI
  exact hI

set_option maxHeartbeats 2000000 in
theorem hside_f (h : Hk) (v : Value) (sd no : Int) (HSD : Hid (Sd sd no)) (w : World) (hv : HMk w v h.ls) (hl : h.ls.length ≤ 1099511627776) (R : List (List UInt8)) (HR : Hid (pkL no h.ls = R)) : Calls Tryz.prog 29 #[hkV h v, .int .u8 sd] w fun e w' => ∃ v', e = .returned v' ∧ HS w' v' R ∧ Below w.heap.size w w' := by
  obtain ⟨A, AN, B, BN, ls⟩ := h
  dsimp only at hv hl HR
  obtain ⟨lo, lc, rfl⟩ := HMk.form hv
  have hx := Hx.new w ⟨A, AN, B, BN, ls⟩ (.slice lo ls.length lc)
  have hBl : Below w.heap.size w (w.alloc (hkO ⟨A, AN, B, BN, ls⟩ (.slice lo ls.length lc))) := (Below.refl _ w).alloc (Nat.le_refl _) _
  have hv1 := HMk.keep hv hBl (Nat.le_refl _)
  obtain ⟨_, _, _, _, x4⟩ := hx.cells
  have hW : w.alloc (Obj.cells #[Value.int IntKind.i64 A, Value.int IntKind.i64 AN, Value.int IntKind.i64 B, Value.int IntKind.i64 BN, .slice lo ls.length lc] 39) = w.alloc (hkO ⟨A, AN, B, BN, ls⟩ (.slice lo ls.length lc)) := rfl
  have HSZ : Hid ((w.alloc (hkO ⟨A, AN, B, BN, ls⟩ (.slice lo ls.length lc))).heap.size = w.heap.size + 1) := (by show _ = _; simp)
  unfold hkV
  dsimp only
  clear hv hx
  generalize w.alloc (hkO ⟨A, AN, B, BN, ls⟩ (.slice lo ls.length lc)) = W at *
  go_enter Tryz.func29, Tryz.ntmps29
  go_wp2
  clear hW x4
  go_loopw [5, 11] (fun ov iv wr => ∃ (k : Nat) (out : List (List UInt8)), k ≤ ls.length ∧ out.length ≤ k ∧ iv = .int .i64 (k : Int) ∧ (∃ oo oc, ov = .slice oo out.length oc) ∧ St W 9 1 ov out.length (scells out) wr ∧ Hid (out ++ pkL no (ls.drop k) = R)) (fun _ iv _ => ls.length - (intOf iv).toNat)
  case atStart => exact ⟨0, [], Nat.zero_le _, Nat.le_refl _, by go_num, ⟨_, _, rfl⟩, ⟨hnil_row _ _ _ _, Below.refl _ _⟩, HR⟩
  case round =>
    obtain ⟨k, out, hk, hok, rfl, ⟨oo, oc, rfl⟩, hS, HI⟩ := hrel
    by_cases hlt : k < ls.length
    · obtain ⟨b, off, rfl, hb, _⟩ := HMk.at hv1 (by omega)
      obtain ⟨m, hm⟩ : ∃ m, ls[k] = m := ⟨_, rfl⟩
      obtain ⟨c0, c1⟩ := Low.mk hS.low hv1 k hlt hm
      have HI2 : Hid (out ++ (if m.sg ≠ no ∧ okS m.sg = true then m.tx :: pkL no (ls.drop (k + 1)) else pkL no (ls.drop (k + 1))) = R) := (by
        show _ = _
        rw [← HI.out, List.drop_eq_getElem_cons hlt, hm]
        rfl)
      have i1 : 0 ≤ (k : Int) := by omega
      have i2 : (k : Int) < (ls.length : Int) := by omega
      obtain ⟨m0, m1⟩ := (Mx.new wr m).cells
      have hS1 := st_alloc (mkO m) hS
      have hsS := hS.low.size
      have HSM : Hid ((wr.alloc (mkO m)).heap.size = wr.heap.size + 1) := (by show _ = _; simp)
      have hW2 : wr.alloc (Obj.cells #[Value.int IntKind.u8 m.sg, Value.string ⟨m.tx.toArray⟩] 52) = wr.alloc (mkO m) := rfl
      clear HI hm HR
      go_upto_region 5 with fail
      obtain ⟨sg, tx⟩ := m
      dsimp only at m0 m1 c0 c1 HI2 hW2
      generalize hwr1 : wr.alloc (mkO ⟨sg, tx⟩) = wr1 at *
      clear hW2
      have hs1 := hS1.low.size
      by_cases h1 : sg = 32
      · subst h1
        have HI3 : Hid (out ++ [tx] ++ pkL no (ls.drop (k + 1)) = R) := pk_take HSD.out (.inl rfl) HI2.out
        clear HI2
        go_wp2_with (at_builtin; refine wpList_append_h _ (by kernel_rfl) (.tmp 24) (.tmp 27) 22 9 (.string ⟨#[]⟩) 1 16 rfl Tryz.underlying22 infoStr rfl (by decide) (by decide) W.heap.size _ _ _ rfl (hS1.own.alloc _) _ 1 (scells [tx]) rfl (new_holds _ _ _ _ _ (by decide)) rfl (scells_one _) (by omega) (by simp; omega) ?_)
        intro v2 w2 hown2 hgrow2
        have hB2 : Below W.heap.size W w2 := (hS1.low.alloc hS1.low.size _).grown hgrow2 (by simp; omega) (fun _ hj => owns_ge hS1.own hj)
        rw [← scells_append] at hown2
        obtain ⟨oo2, oc2, rfl⟩ := (holds_of hown2).form
        clear hgrow2
        go_wp2
        exact ⟨⟨k + 1, out ++ [tx], by omega, by simp; omega, by go_num, ⟨_, _, by rw [List.length_append]; rfl⟩, ⟨by rw [List.length_append]; exact hown2, hB2⟩, HI3⟩, by simp [intOf]; omega⟩
      · have e1 : (sg == 32) = false := by simpa using h1
        by_cases h2 : sg = sd
        · subst h2
          have HI3 : Hid (out ++ [tx] ++ pkL no (ls.drop (k + 1)) = R) := pk_take HSD.out (.inr rfl) HI2.out
          clear HI2 h1
          go_wp2_with (at_builtin; refine wpList_append_h _ (by kernel_rfl) (.tmp 24) (.tmp 27) 22 9 (.string ⟨#[]⟩) 1 16 rfl Tryz.underlying22 infoStr rfl (by decide) (by decide) W.heap.size _ _ _ rfl (hS1.own.alloc _) _ 1 (scells [tx]) rfl (new_holds _ _ _ _ _ (by decide)) rfl (scells_one _) (by omega) (by simp; omega) ?_)
          intro v2 w2 hown2 hgrow2
          have hB2 : Below W.heap.size W w2 := (hS1.low.alloc hS1.low.size _).grown hgrow2 (by simp; omega) (fun _ hj => owns_ge hS1.own hj)
          rw [← scells_append] at hown2
          obtain ⟨oo2, oc2, rfl⟩ := (holds_of hown2).form
          clear hgrow2
          go_wp2
          exact ⟨⟨k + 1, out ++ [tx], by omega, by simp; omega, by go_num, ⟨_, _, by rw [List.length_append]; rfl⟩, ⟨by rw [List.length_append]; exact hown2, hB2⟩, HI3⟩, by simp [intOf]; omega⟩
        · have e2 : (sg == sd) = false := by simpa using h2
          have HI3 : Hid (out ++ pkL no (ls.drop (k + 1)) = R) := pk_pass HSD.out h1 h2 HI2.out
          clear HI2 h1 h2
          go_wp2
          exact ⟨⟨k + 1, out, by omega, by omega, by go_num, ⟨_, _, rfl⟩, hS1, HI3⟩, by simp [intOf]; omega⟩
    · have HI3 : Hid (out = R) := (by
        have h := HI.out
        rw [List.drop_of_length_le (by omega)] at h
        show out = R
        simpa [pkL] using h)
      clear HI
      have hend : decide ((k : Int) < (ls.length : Int)) = false := decide_eq_false (by omega)
      go_wp2
      go_ret
      refine ⟨_, rfl, ?_, hBl.trans (hS.low.mono (by have := HSZ.out; omega))⟩
      rw [← HI3.out]
      exact holds_of hS.own
theorem hOld_f (h : Hk) (v : Value) (w : World) (hv : HMk w v h.ls) (hl : h.ls.length ≤ 1099511627776) (R : List (List UInt8)) (HR : Hid (oldL h = R)) : Calls Tryz.prog 13 #[hkV h v] w fun e w' => ∃ v', e = .returned v' ∧ HS w' v' R ∧ Below w.heap.size w w' := by
  have hBl : Below w.heap.size w (w.alloc (hkO h v)) := (Below.refl _ w).alloc (Nat.le_refl _) _
  have hv1 := HMk.keep hv hBl (Nat.le_refl _)
  obtain ⟨c0, c1, c2, c3, c4⟩ := (Hx.new w h v).cells
  unfold hkO at c0 c1 c2 c3 c4 hBl hv1
  obtain ⟨lo, lc, rfl⟩ := HMk.form hv
  have e : hkV h (.slice lo h.ls.length lc) = .agg #[.int .i64 h.A, .int .i64 h.AN, .int .i64 h.B, .int .i64 h.BN, .slice lo h.ls.length lc] := rfl
  rw [e]
  go_enter Tryz.func13, Tryz.ntmps13
  go_wp2_with fail
  refine (hside_f h _ 45 43 (.inl ⟨rfl, rfl⟩) _ hv1 hl R HR).mono ?_
  rintro e w1 ⟨v1, rfl, hv1, hB1⟩
  obtain ⟨vo, vc, rfl⟩ := Holds.form hv1
  go_wp2
  go_ret
  exact ⟨_, rfl, hv1, hBl.trans (hB1.mono hBl.size)⟩
theorem hNew_f (h : Hk) (v : Value) (w : World) (hv : HMk w v h.ls) (hl : h.ls.length ≤ 1099511627776) (R : List (List UInt8)) (HR : Hid (newL h = R)) : Calls Tryz.prog 14 #[hkV h v] w fun e w' => ∃ v', e = .returned v' ∧ HS w' v' R ∧ Below w.heap.size w w' := by
  have hBl : Below w.heap.size w (w.alloc (hkO h v)) := (Below.refl _ w).alloc (Nat.le_refl _) _
  have hv1 := HMk.keep hv hBl (Nat.le_refl _)
  obtain ⟨c0, c1, c2, c3, c4⟩ := (Hx.new w h v).cells
  unfold hkO at c0 c1 c2 c3 c4 hBl hv1
  obtain ⟨lo, lc, rfl⟩ := HMk.form hv
  have e : hkV h (.slice lo h.ls.length lc) = .agg #[.int .i64 h.A, .int .i64 h.AN, .int .i64 h.B, .int .i64 h.BN, .slice lo h.ls.length lc] := rfl
  rw [e]
  go_enter Tryz.func14, Tryz.ntmps14
  go_wp2_with fail
  refine (hside_f h _ 43 45 (.inr ⟨rfl, rfl⟩) _ hv1 hl R HR).mono ?_
  rintro e w1 ⟨v1, rfl, hv1, hB1⟩
  obtain ⟨vo, vc, rfl⟩ := Holds.form hv1
  go_wp2
  go_ret
  exact ⟨_, rfl, hv1, hBl.trans (hB1.mono hBl.size)⟩

/-- may a hunk say that number of its lines? -/
def nmB (a n : Int) : Bool := nat31 a && nat31 n && !(decide (a = 0) && decide (0 < n))
theorem hnumbered_f (a n : Int) (w : World) (r : Bool) (HR : Hid (nmB a n = r)) : Calls Tryz.prog 32 #[.int .i64 a, .int .i64 n] w fun e w' => e = .returned (.bool r) ∧ w' = w := by
  have hr : r = true ↔ (0 ≤ a ∧ a ≤ 2147483647 ∧ 0 ≤ n ∧ n ≤ 2147483647 ∧ (0 < a ∨ n = 0)) := by
    rw [← HR.out]
    unfold nmB nat31
    simp only [Bool.and_eq_true, decide_eq_true_eq, Bool.not_eq_true', Bool.and_eq_false_iff, decide_eq_false_iff_not]
    omega
  have HRR : Hid (r = true ↔ (0 ≤ a ∧ a ≤ 2147483647 ∧ 0 ≤ n ∧ n ≤ 2147483647 ∧ (0 < a ∨ n = 0))) := hr
  clear hr HR
  have no : ∀ {p : Prop}, p → (p → ¬ (0 ≤ a ∧ a ≤ 2147483647 ∧ 0 ≤ n ∧ n ≤ 2147483647 ∧ (0 < a ∨ n = 0))) → Ending.returned (.bool false) = .returned (.bool r) := fun hp h => by
    cases r with
    | false => rfl
    | true => exact absurd (HRR.out.1 rfl) (h hp)
  go_enter Tryz.func32, Tryz.ntmps32
  by_cases h1 : a < 0
  · go_wp2
    go_ret
    exact ⟨no h1 (fun _ => by omega), rfl⟩
  · have e1 : decide (a < 0) = false := decide_eq_false h1
    by_cases h2 : 2147483647 < a
    · go_wp2
      go_ret
      exact ⟨no h2 (fun _ => by omega), rfl⟩
    · have e2 : decide (2147483647 < a) = false := decide_eq_false h2
      by_cases h3 : n < 0
      · go_wp2
        go_ret
        exact ⟨no h3 (fun _ => by omega), rfl⟩
      · have e3 : decide (n < 0) = false := decide_eq_false h3
        by_cases h4 : 2147483647 < n
        · go_wp2
          go_ret
          exact ⟨no h4 (fun _ => by omega), rfl⟩
        · have e4 : decide (2147483647 < n) = false := decide_eq_false h4
          by_cases h5 : 0 < a
          · obtain rfl : r = true := HRR.out.2 (by omega)
            go_wp2
            go_ret
            exact ⟨rfl, rfl⟩
          · have e5 : decide (0 < a) = false := decide_eq_false h5
            by_cases h6 : n = 0
            · obtain rfl : r = true := HRR.out.2 (by omega)
              subst h6
              go_wp2
              go_ret
              exact ⟨rfl, rfl⟩
            · have e6 : (n == 0) = false := by simpa using h6
              go_wp2
              go_ret
              exact ⟨no h6 (fun _ => by omega), rfl⟩
theorem hplaceOf_f (a n : Int) (w : World) (h1 : -4611686018427387904 ≤ a) (h2 : a ≤ 9223372036854775807) (r : Int) (HR : Hid ((if 0 < n then a - 1 else a) = r)) : Calls Tryz.prog 31 #[.int .i64 a, .int .i64 n] w fun e w' => e = .returned (.int .i64 r) ∧ w' = w := by
  have hr := HR.out
  clear HR
  go_enter Tryz.func31, Tryz.ntmps31
  by_cases h : 0 < n
  · rw [if_pos h] at hr
    subst hr
    go_wp2
    go_ret
    exact ⟨by go_num, rfl⟩
  · rw [if_neg h] at hr
    subst hr
    have e : decide (0 < n) = false := decide_eq_false h
    go_wp2
    go_ret
    exact ⟨rfl, rfl⟩
theorem hnumberOf_f (a n : Int) (w : World) (h1 : -4611686018427387904 ≤ a) (h2 : a ≤ 4611686018427387904) (r : Int) (HR : Hid ((if 0 < n then a + 1 else a) = r)) : Calls Tryz.prog 44 #[.int .i64 a, .int .i64 n] w fun e w' => e = .returned (.int .i64 r) ∧ w' = w := by
  have hr := HR.out
  clear HR
  go_enter Tryz.func44, Tryz.ntmps44
  by_cases h : 0 < n
  · rw [if_pos h] at hr
    subst hr
    go_wp2
    go_ret
    exact ⟨by go_num, rfl⟩
  · rw [if_neg h] at hr
    subst hr
    have e : decide (0 < n) = false := decide_eq_false h
    go_wp2
    go_ret
    exact ⟨rfl, rfl⟩
/-- is a line changed? is its sign none? -/
def chgB (m : Mk) : Bool := decide (m.sg = 45) || decide (m.sg = 43)
theorem hchanged_f (m : Mk) (w : World) : Calls Tryz.prog 36 #[.agg #[.int .u8 m.sg, .string ⟨m.tx.toArray⟩]] w fun e w' => e = .returned (.bool (chgB m)) ∧ Below w.heap.size w w' := by
  obtain ⟨sg, tx⟩ := m
  obtain ⟨m0, m1⟩ := (Mx.new w ⟨sg, tx⟩).cells
  have hB : Below w.heap.size w (w.alloc (mkO ⟨sg, tx⟩)) := (Below.refl _ w).alloc (Nat.le_refl _) _
  unfold mkO at m0 m1 hB
  dsimp only at m0 m1 hB
  unfold chgB
  by_cases h1 : sg = 45
  · subst h1
    go_enter Tryz.func36, Tryz.ntmps36
    go_wp2
    go_ret
    exact ⟨rfl, hB⟩
  · have e1 : (sg == 45) = false := by simpa using h1
    by_cases h2 : sg = 43
    · subst h2
      go_enter Tryz.func36, Tryz.ntmps36
      go_wp2
      go_ret
      exact ⟨rfl, hB⟩
    · have e2 : (sg == 43) = false := by simpa using h2
      have HE : Hid ((decide (sg = 45) || decide (sg = 43)) = false) := (by show _ = _; simp [h1, h2])
      rw [HE.out]
      clear HE h1 h2
      go_enter Tryz.func36, Tryz.ntmps36
      go_wp2
      go_ret
      exact ⟨rfl, hB⟩
theorem hstrange_f (m : Mk) (w : World) : Calls Tryz.prog 34 #[.agg #[.int .u8 m.sg, .string ⟨m.tx.toArray⟩]] w fun e w' => e = .returned (.bool (!okS m.sg)) ∧ Below w.heap.size w w' := by
  obtain ⟨m0, m1⟩ := (Mx.new w m).cells
  have hB : Below w.heap.size w (w.alloc (mkO m)) := (Below.refl _ w).alloc (Nat.le_refl _) _
  have hW : w.alloc (.cells #[.int .u8 m.sg, .string ⟨m.tx.toArray⟩] 52) = w.alloc (mkO m) := rfl
  generalize w.alloc (mkO m) = W at *
  by_cases h1 : m.sg = 32
  · have HE : Hid (okS m.sg = true) := (by show _ = _; rw [h1]; rfl)
    rw [HE.out]
    have e1 : (m.sg != 32) = false := by simpa using h1
    clear HE h1
    go_enter Tryz.func34, Tryz.ntmps34
    go_wp2
    go_ret
    exact ⟨rfl, hB⟩
  · have e1 : (m.sg != 32) = true := by simpa using h1
    obtain ⟨r, hr⟩ : ∃ r, chgB m = r := ⟨_, rfl⟩
    have HE : Hid (okS m.sg = r) := (by
      show _ = _
      rw [← hr]
      unfold okS chgB
      simp [h1])
    have HC := hchanged_f m W
    rw [hr] at HC
    rw [HE.out]
    clear HE h1 hr
    go_enter Tryz.func34, Tryz.ntmps34
    go_wp2_with fail
    refine HC.mono ?_
    rintro e w1 ⟨rfl, hB1⟩
    go_wp2
    go_ret
    exact ⟨rfl, hB.trans (hB1.mono hB.size)⟩
end Go.Proofs.YtgckcbcdmmnkoaaGreatDoor
