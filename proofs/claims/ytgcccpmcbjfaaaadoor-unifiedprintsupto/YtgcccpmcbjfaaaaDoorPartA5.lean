/-
  Texts that belong together, joined: HuRf7, PcLs, HuOwn, HuC1, EdRChk, HuIv, HuCn, HuOne, EdOpen, EdOpenS, HuOpen.
-/
import Derived.Test.YtgcccpmcbjfaaaaDoorPartA4
import Derived.Test.YtgcccpmcbjfaaaaDoorPartA3
import Derived.Laws.Rows
import Derived.Deep.CutRange
import Derived.Test.YtgcccpmcbjfaaaaDoorRows
import Derived.Test.YtgcccpmcbjfaaaaDoorChecked
import Derived.Test.YtgcccpmcbjfaaaaDoorPartA2
import Derived.ProofKit
import Derived.OpenShut
import Derived.ShutString
import Derived.ChangeOld
import Derived.Below
import Derived.SliceStrings
import Derived.ChangeSlices
import Derived.Deep.Slices
import Derived.Deep.SlicePairs
import Derived.JoinedCond

/- The reference's SameHunks of layer 11, walked: rows of hunks that are the same; steps by hand. -/
namespace Go.Proofs.YtgcccpmcbjfaaaaDoor
open Go.RowKit

theorem exec_ixH {u : World} {b off n c i : Nat} (hi : i < n) {op : Oper} (x y : Operand) (ho : op.op = .indexAddr 22 x y) {ev : Operand → Value} (hx : ev x = .slice (some ⟨b, off, none⟩) n c) (hy : ev y = .int .i64 (i : Int)) :
    (execOp ev op).run Tryd.prog u = .ok (.value (.pointer (some ⟨b, off + i * 5, none⟩))) u := by
  have i1 : 0 ≤ (i : Int) := by omega
  have i2 : (i : Int) < (n : Int) := by omega
  simp only [execOp, ho, hx, hy]
  go_simp
/-- the cells of a hunk in a row -/
def HkAt (u : World) (b o : Nat) (x : Hk) (y : Value) : Prop := u.cell? ⟨b, o, none⟩ = some (.int .i64 x.A) ∧ u.cell? ⟨b, o + 1, none⟩ = some (.int .i64 x.AN) ∧ u.cell? ⟨b, o + 2, none⟩ = some (.int .i64 x.B) ∧ u.cell? ⟨b, o + 3, none⟩ = some (.int .i64 x.BN) ∧ u.cell? ⟨b, o + 4, none⟩ = some y
theorem HkAt.low {u u' : World} {b o : Nat} {x : Hk} {y : Value} (h : HkAt u b o x y) (hB : Low u u') : HkAt u' b o x y := by
  have key : ∀ (q : Addr) (z : Value), u.cell? q = some z → u'.cell? q = some z := fun q z hz => (World.cell?_of_block (w := u) (Below.block hB _ (World.block_lt_of_cell? _ _ hz))).trans hz
  exact ⟨key _ _ h.1, key _ _ h.2.1, key _ _ h.2.2.1, key _ _ h.2.2.2.1, key _ _ h.2.2.2.2⟩
theorem load_hkR {u : World} {b o : Nat} {h : Hk} {yo : Option Addr} {n yc : Nat} (q : HkAt u b o h (.slice yo n yc)) {op : Oper} (x : Operand) (ho : op.op = .load 44 x) {ev : Operand → Value} (hx : ev x = .pointer (some ⟨b, o, none⟩)) :
    (execOp ev op).run Tryd.prog u = .ok (.value (hkV h (.slice yo n yc))) u := by
  obtain ⟨d0, d1, d2, d3, d4⟩ := q
  unfold hkV
  simp only [execOp, ho, hx]
  go_simp
theorem hsame_held {h : Hk} {v1 v2 : Value} {W u : World} (hv1 : HMk W v1 h.ls) (hv2 : HMk W v2 h.ls) (hl : h.ls.length ≤ 1099511627776) (hL : Low W u) : Calls Tryd.prog 47 (#[hkV h v1, hkV h v2] ++ #[]) u fun e w' => ∃ x, e = .returned x ∧ Low W w' ∧ x = .bool true := by
  refine (rSame_f h v1 v2 u (HMk.keep hv1 hL (Nat.le_refl _)) (HMk.keep hv2 hL (Nat.le_refl _)) hl).mono ?_
  rintro e w' ⟨rfl, hB⟩
  exact ⟨_, rfl, hL.trans (hB.mono hL.size), rfl⟩

set_option maxRecDepth 10000 in
set_option maxHeartbeats 4000000 in
theorem rSameHunks_f (p1 p2 : List (Hk × Value)) (v1 v2 : Value) (w : World) (hv1 : HHp w v1 p1) (hv2 : HHp w v2 p2) (he : p1.map (·.1) = p2.map (·.1)) (hok : HOk p1) : Calls Tryd.prog 30 #[v1, v2] w fun e w' => e = .returned (.bool true) ∧ Below w.heap.size w w' := by
  obtain ⟨o1, c1, rfl⟩ := Holds.form hv1.row
  obtain ⟨o2, c2, rfl⟩ := Holds.form hv2.row
  have hl12 : p2.length = p1.length := by have := congrArg List.length he; simpa using this.symm
  have HE : Hid (p1.map (·.1) = p2.map (·.1)) := he
  have hpl : p1.length ≤ 1099511627776 := hok.1
  have HOK : Hid (HOk p1) := hok
  have HL : Hid (p2.length = p1.length) := hl12
  rw [hl12] at hv2 ⊢
  clear he hok hl12
  go_enter Tryd.func30, Tryd.ntmps30
  go_wp2
  go_loopw [5] (fun iv wr => ∃ k : Nat, k ≤ p1.length ∧ iv = .int .i64 (k : Int) ∧ Below w.heap.size w wr) (fun iv _ => p1.length - (intOf iv).toNat)
  case atStart => exact ⟨0, Nat.zero_le _, by go_num, Below.refl _ _⟩
  case round =>
    obtain ⟨k, hk, rfl, hB⟩ := hrel
    by_cases hlt : k < p1.length
    · obtain ⟨b1, f1, rfl, _, _⟩ := hv1.at (by omega)
      obtain ⟨b2, f2, rfl, _, _⟩ := hv2.at (by have := HL.out; omega)
      obtain ⟨x, y, hxy⟩ : ∃ x y, p1[k] = (x, y) := ⟨_, _, rfl⟩
      obtain ⟨x', z, hxz⟩ : ∃ x z, p2[k]'(by have := HL.out; omega) = (x, z) := ⟨_, _, rfl⟩
      obtain rfl : x' = x := by
        have h1 : (p1.map (·.1))[k]? = some x := by simp [hlt, hxy]
        have h2 : (p2.map (·.1))[k]? = some x' := by simp [List.getElem?_eq_getElem (show k < p2.length by have := HL.out; omega), hxz]
        rw [HE.out, h2] at h1
        simpa using h1
      obtain ⟨r1, hm1⟩ := hv1.take hB k hlt hxy
      obtain ⟨r2, hm2⟩ := hv2.take hB k (by have := HL.out; omega) hxz
      have hbd := (HOK.out.2 _ (List.getElem_mem hlt)).1
      rw [hxy] at hbd
      dsimp only at hbd
      obtain ⟨yo, yc, rfl⟩ := hm1.form
      obtain ⟨zo, zc, rfl⟩ := hm2.form
      have hr1 : ∀ u : World, Low wr u → HkAt u b1 (f1 + k * 5) x' (.slice yo x'.ls.length yc) := fun u hu => HkAt.low r1 hu
      have hr2 : ∀ u : World, Low wr u → HkAt u b2 (f2 + k * 5) x' (.slice zo x'.ls.length zc) := fun u hu => HkAt.low r2 hu
      have i1 : 0 ≤ (k : Int) := by omega
      have i2 : (k : Int) < (p1.length : Int) := by omega
      clear hxy hxz r1 r2
      go_wp2_with fail
      refine wp_region_noPanic ?_
      refine wp_region_held_drew (S := fun u => Low wr u) (by kernel_rfl) (Below.dN (Below.refl _ wr) 1) (fun hHeld => ?_)
      refine go_take 0 17 _ (.slice (some ⟨b1, f1, none⟩) p1.length c1) rfl (by kernel_rfl) (by kernel_rfl) (by kernel_rfl) (by kernel_rfl) (fun _ _ _ h => h) (Or.inl ⟨by kernel_rfl, fun u hu => by kernel_rfl⟩) hHeld ?_
      simp only [Act.put, List.setIfInBounds_toArray, List.set_cons_zero, List.set_cons_succ]
      refine go_take 1 18 _ (.int .i64 (k : Int)) rfl (by kernel_rfl) (by kernel_rfl) (by kernel_rfl) (by kernel_rfl) (fun _ _ _ h => h) (Or.inl ⟨by kernel_rfl, fun u hu => by kernel_rfl⟩) hHeld ?_
      simp only [Act.put, List.setIfInBounds_toArray, List.set_cons_zero, List.set_cons_succ]
      refine go_take 2 19 _ (.pointer (some ⟨b1, f1 + k * 5, none⟩)) rfl (by kernel_rfl) (by kernel_rfl) (by kernel_rfl) (by kernel_rfl) (fun _ _ _ h => h) (Or.inl ⟨by kernel_rfl, fun u hu => exec_ixH (c := c1) hlt (.tmp 17) (.tmp 18) (by kernel_rfl) (by kernel_rfl) (by kernel_rfl)⟩) hHeld ?_
      simp only [Act.put, List.setIfInBounds_toArray, List.set_cons_zero, List.set_cons_succ]
      refine go_take 3 20 _ (hkV x' (.slice yo x'.ls.length yc)) rfl (by kernel_rfl) (by kernel_rfl) (by kernel_rfl) (by kernel_rfl) (fun _ _ _ h => h) (Or.inl ⟨by kernel_rfl, fun u hu => load_hkR (hr1 u hu) (.tmp 19) (by kernel_rfl) (by kernel_rfl)⟩) hHeld ?_
      simp only [Act.put, List.setIfInBounds_toArray, List.set_cons_zero, List.set_cons_succ]
      refine go_take 4 21 _ (.slice (some ⟨b2, f2, none⟩) p1.length c2) rfl (by kernel_rfl) (by kernel_rfl) (by kernel_rfl) (by kernel_rfl) (fun _ _ _ h => h) (Or.inl ⟨by kernel_rfl, fun u hu => by kernel_rfl⟩) hHeld ?_
      simp only [Act.put, List.setIfInBounds_toArray, List.set_cons_zero, List.set_cons_succ]
      refine go_take 5 22 _ (.int .i64 (k : Int)) rfl (by kernel_rfl) (by kernel_rfl) (by kernel_rfl) (by kernel_rfl) (fun _ _ _ h => h) (Or.inl ⟨by kernel_rfl, fun u hu => by kernel_rfl⟩) hHeld ?_
      simp only [Act.put, List.setIfInBounds_toArray, List.set_cons_zero, List.set_cons_succ]
      refine go_take 6 23 _ (.pointer (some ⟨b2, f2 + k * 5, none⟩)) rfl (by kernel_rfl) (by kernel_rfl) (by kernel_rfl) (by kernel_rfl) (fun _ _ _ h => h) (Or.inl ⟨by kernel_rfl, fun u hu => exec_ixH (c := c2) hlt (.tmp 21) (.tmp 22) (by kernel_rfl) (by kernel_rfl) (by kernel_rfl)⟩) hHeld ?_
      simp only [Act.put, List.setIfInBounds_toArray, List.set_cons_zero, List.set_cons_succ]
      refine go_take 7 24 _ (hkV x' (.slice zo x'.ls.length zc)) rfl (by kernel_rfl) (by kernel_rfl) (by kernel_rfl) (by kernel_rfl) (fun _ _ _ h => h) (Or.inl ⟨by kernel_rfl, fun u hu => load_hkR (hr2 u hu) (.tmp 23) (by kernel_rfl) (by kernel_rfl)⟩) hHeld ?_
      simp only [Act.put, List.setIfInBounds_toArray, List.set_cons_zero, List.set_cons_succ]
      refine go_callE 8 25 _ rfl (by kernel_rfl) (by kernel_rfl) (by kernel_rfl) 47 (.func 47) #[.tmp 20, .tmp 24] #[44, 44] (by kernel_rfl) #[] (by kernel_rfl) #[hkV x' (.slice yo x'.ls.length yc), hkV x' (.slice zo x'.ls.length zc)] (by kernel_rfl) (enters_of Tryd.func47 (by kernel_rfl) rfl) _ (hsame_held hm1 hm2 hbd hHeld) ?_
      rintro _ u8 hHeld rfl
      simp only [Act.put, List.setIfInBounds_toArray, List.set_cons_zero, List.set_cons_succ]
      refine go_take 9 26 _ (.bool false) rfl (by kernel_rfl) (by kernel_rfl) (by kernel_rfl) (by kernel_rfl) (fun _ _ _ h => h) (Or.inl ⟨by kernel_rfl, fun u hu => by kernel_rfl⟩) hHeld ?_
      simp only [Act.put, List.setIfInBounds_toArray, List.set_cons_zero, List.set_cons_succ]
      refine wpAnyH_done (by kernel_rfl) ?_ _
      refine NoPanic.normal ?_
      have hB2 := hB.trans (Below.mono hHeld hB.size)
      go_wp2
      exact ⟨⟨k + 1, by omega, by go_num, hB2⟩, by simp [intOf]; omega⟩
    · have hend : decide ((k : Int) < (p1.length : Int)) = false := decide_eq_false (by omega)
      go_wp2
      go_ret
      exact ⟨rfl, hB⟩
end Go.Proofs.YtgcccpmcbjfaaaaDoor

/- A row of numbers of one's own, at a known block: what is kept. -/
namespace Go.Proofs.YtgcccpmcbjfaaaaDoor
open Go.RowKit

/-- the state of the walk -/
structure Ls (w : World) (g n : Nat) (Z : List Int) (u : World) : Prop where
  low : Below w.heap.size w u
  own : u.ownsRow w.heap.size 3 1 (.slice (some ⟨g, 0, none⟩) n n) n (icells Z)
theorem Ls.drewN {w u : World} {g n : Nat} {Z : List Int} (h : Ls w g n Z u) (k : Nat) : Ls w g n Z (u.drewN k) := ⟨Below.dN h.low k, h.own⟩
theorem Ls.keep {w u u' : World} {g n : Nat} {Z : List Int} (h : Ls w g n Z u) (hb : Below u.heap.size u u') : Ls w g n Z u' := ⟨h.low.trans (hb.mono h.low.size), owns_keep h.own hb⟩
theorem Ls.set {w u : World} {g n : Nat} {Z : List Int} (h : Ls w g n Z u) (k : Nat) (m : Int) : Ls w g n (Z.set k m) (u.setCell ⟨g, k, none⟩ (.int .i64 m)) := by
  obtain ⟨p1, g1⟩ := h.own.stored k (.int .i64 m)
  have e : (icells Z).set k (.int .i64 m) = icells (Z.set k m) := by simp [icells, List.map_set]
  rw [e] at p1
  exact ⟨h.low.grown g1 h.low.size (fun j hj => owns_ge h.own (by simpa [Value.ownBlock] using hj)), p1⟩
theorem Ls.len {w u : World} {g n : Nat} {Z : List Int} (h : Ls w g n Z u) : Z.length = n := by
  have := h.own.1
  rw [icells_length, Nat.mul_one] at this
  exact this
theorem Ls.at {w u : World} {g n : Nat} {Z : List Int} (h : Ls w g n Z u) {k : Nat} {z : Int} (hz : Z[k]? = some z) : u.cell? ⟨g, k, none⟩ = some (.int .i64 z) := by
  have hl := (List.getElem?_eq_some_iff.1 hz).1
  rw [h.len] at hl
  rw [h.own.cellAt k (by omega)]
  simp [icells, hz]
theorem low_grown {w u : World} (h : Low w u) (r : Option Nat) : w.grownBy u r := ⟨Below.os h, Below.tape h, Below.output h, Below.size h, fun k hk _ => Below.block h k hk⟩
theorem grown_set (u : World) (g j : Nat) (v : Value) : u.grownBy (u.setCell ⟨g, j, none⟩ v) (some g) := ⟨rfl, rfl, rfl, (KeepsWalks.setCell u _ v).size, fun k _ hk => Below.heap_setCell _ _ _ k (fun e => hk (by rw [e]))⟩
theorem ls_other {W0 u : World} {n : Nat} {K : List Int} {G : Nat} (h : Ls W0 G n K u) {g : Nat} (hg : G ≠ g) (hw : W0.heap.size ≤ g) (j : Nat) (v : Value) : Ls W0 G n K (u.setCell ⟨g, j, none⟩ v) :=
  ⟨h.low.grown (grown_set u g j v) h.low.size (fun q hq => by cases hq; exact hw), h.own.kept (grown_set u g j v) (.inr (fun e => by simp [Value.ownBlock] at e; omega))⟩
theorem grown_new {w u : World} {r : Option Nat} (h : w.grownBy u r) {B : Nat} (hB : w.heap.size ≤ B) (j : Nat) (v : Value) : w.grownBy (u.setCell ⟨B, j, none⟩ v) r :=
  ⟨h.os, h.tape, h.output, Nat.le_trans h.size (grown_set u B j v).size, fun k hk hn => (heap_setCell_other u _ k _ (fun e => by simp at e; omega)).trans (h.block k hk hn)⟩
theorem grown_drewN {w u : World} {r : Option Nat} (h : w.grownBy u r) (k : Nat) : w.grownBy (u.drewN k) r := ⟨h.os, h.tape, h.output, h.size, h.block⟩
end Go.Proofs.YtgcccpmcbjfaaaaDoor

/- Hunks of one's own: a row of them, each with a row of lines of one's own; the reference's Copy, walked. -/
namespace Go.Proofs.YtgcccpmcbjfaaaaDoor
open Go.RowKit

theorem own_lt {u : World} {base : Nat} {e : TypeId} {s : Nat} {v : Value} {n : Nat} {xs : List Value} (h : u.ownsRow base e s v n xs) {g : Nat} (hg : v.ownBlock = some g) : g < u.heap.size := by
  rcases h.2 with ⟨rfl, _⟩ | ⟨b, cap, cur, rfl, _, hb, _⟩
  · cases hg
  · simp [Value.ownBlock] at hg
    subst hg
    exact (Array.getElem?_eq_some_iff.1 hb).1
theorem own_ne {u : World} {base base' : Nat} {e e' : TypeId} {s s' : Nat} {v v' : Value} {n n' : Nat} {xs xs' : List Value} (h : u.ownsRow base e s v n xs) (h' : u.ownsRow base' e' s' v' n' xs') (he : e ≠ e') {g : Nat} (hg : v.ownBlock = some g) : v'.ownBlock ≠ some g := by
  intro hg'
  rcases h.2 with ⟨rfl, _⟩ | ⟨b, cap, cur, rfl, _, hb, _⟩
  · cases hg
  · rcases h'.2 with ⟨rfl, _⟩ | ⟨b', cap', cur', rfl, _, hb', _⟩
    · cases hg'
    · simp [Value.ownBlock] at hg hg'
      subst hg hg'
      rw [hb] at hb'
      simp at hb'
      exact he hb'.2
/-- a row of hunks of one's own -/
structure Hs (w : World) (ov : Value) (P : List (Hk × Value)) (u : World) : Prop where
  low : Below w.heap.size w u
  own : u.ownsRow w.heap.size 44 5 ov P.length (hkcells P)
  ins : ∀ x ∈ P, u.ownsRow w.heap.size 50 2 x.2 x.1.ls.length (mkcells x.1.ls)
theorem Hs.nil (w : World) : Hs w (.slice none 0 0) [] w := ⟨Below.refl _ _, hnil_row _ _ _ _, fun _ h => by cases h⟩
theorem Hs.alloc {w : World} {ov : Value} {P : List (Hk × Value)} {u : World} (h : Hs w ov P u) (o : Obj) : Hs w ov P (u.alloc o) := ⟨h.low.alloc h.low.size o, h.own.alloc o, fun x hx => (h.ins x hx).alloc o⟩
theorem Hs.drewN {w : World} {ov : Value} {P : List (Hk × Value)} {u : World} (h : Hs w ov P u) (n : Nat) : Hs w ov P (u.drewN n) := ⟨Below.dN h.low n, h.own, h.ins⟩
/-- what is written lies in a block that is none of theirs -/
theorem Hs.grown {w : World} {ov : Value} {P : List (Hk × Value)} {u u' : World} (h : Hs w ov P u) {g : Option Nat} (hg : u.grownBy u' g) (hb : ∀ k, g = some k → w.heap.size ≤ k) (h1 : ∀ k, g = some k → ov.ownBlock ≠ some k) (h2 : ∀ x ∈ P, ∀ k, g = some k → x.2.ownBlock ≠ some k) : Hs w ov P u' := by
  have key : ∀ {e : TypeId} {s : Nat} {v : Value} {n : Nat} {xs : List Value}, u.ownsRow w.heap.size e s v n xs → (∀ k, g = some k → v.ownBlock ≠ some k) → u'.ownsRow w.heap.size e s v n xs := by
    intro e s v n xs ho hne
    refine ⟨ho.1, ?_⟩
    rcases ho.2 with q | ⟨b, cap, cur, rfl, q2, q3, q4⟩
    · exact .inl q
    · refine .inr ⟨b, cap, cur, rfl, q2, ?_, q4⟩
      rw [hg.block b (Array.getElem?_eq_some_iff.1 q3).1 (fun e => hne b e.symm rfl)]
      exact q3
  exact ⟨h.low.grown hg h.low.size (fun k hk => hb k hk), key h.own h1, fun x hx => key (h.ins x hx) (h2 x hx)⟩
theorem Hs.lt {w : World} {ov : Value} {P : List (Hk × Value)} {u : World} (h : Hs w ov P u) : (∀ k, ov.ownBlock = some k → k < u.heap.size) ∧ ∀ x ∈ P, ∀ k, x.2.ownBlock = some k → k < u.heap.size := ⟨fun _ hk => own_lt h.own hk, fun x hx _ hk => own_lt (h.ins x hx) hk⟩
/-- one that is new, a box or a row, is none of theirs -/
theorem Hs.fresh {w : World} {ov : Value} {P : List (Hk × Value)} {u u1 u' : World} (h : Hs w ov P u) (h1 : Hs w ov P u1) {k : Nat} (hk : u.heap.size ≤ k) (hg : u1.grownBy u' (some k)) : Hs w ov P u' := by
  have hl := h.lt
  have hs := h.low.size
  refine h1.grown hg (fun j hj => by cases hj; omega) (fun j hj => by cases hj; intro e; have := hl.1 _ e; omega) (fun x hx j hj => by cases hj; intro e; have := hl.2 x hx _ e; omega)
/-- what it holds -/
theorem Hs.holds {w : World} {ov : Value} {P : List (Hk × Value)} {u : World} (h : Hs w ov P u) : HHp u ov P := ⟨holds_of h.own, fun x hx => holds_of (h.ins x hx)⟩
/-- a hunk more -/
theorem Hs.more {w : World} {ov : Value} {P : List (Hk × Value)} {u u' : World} (h : Hs w ov P u) {x : Hk} {y ov' : Value} (hy : u.ownsRow w.heap.size 50 2 y x.ls.length (mkcells x.ls)) (hg : u.grownBy u' ov.ownBlock) (ho : u'.ownsRow w.heap.size 44 5 ov' (P.length + 1) (hkcells P ++ hkC x y)) : Hs w ov' (P ++ [(x, y)]) u' := by
  have key : ∀ {v : Value} {n : Nat} {xs : List Value}, u.ownsRow w.heap.size 50 2 v n xs → u'.ownsRow w.heap.size 50 2 v n xs := by
    intro v n xs hv
    refine ⟨hv.1, ?_⟩
    rcases hv.2 with q | ⟨b, cap, cur, rfl, q2, q3, q4⟩
    · exact .inl q
    · refine .inr ⟨b, cap, cur, rfl, q2, ?_, q4⟩
      rw [hg.block b (Array.getElem?_eq_some_iff.1 q3).1 (fun e => own_ne h.own hv (by decide) e.symm rfl)]
      exact q3
  refine ⟨h.low.grown hg h.low.size (fun j hj => owns_ge h.own hj), ?_, fun z hz => ?_⟩
  · rw [hkcells_append, List.length_append]
    have e : hkcells [(x, y)] = hkC x y := by simp [hkcells]
    rw [e]
    exact ho
  · rcases List.mem_append.1 hz with hz | hz
    · exact key (h.ins z hz)
    · rw [List.mem_singleton.1 hz]
      exact key hy
/-- one hunk, as a new row of one -/
theorem one_row (w : World) (x : Hk) (y : Value) : Holds (w.alloc (hkO x y)) (.slice (some ⟨w.heap.size, 0, none⟩) 1 1) 1 (hkC x y) := new_holds w #[.int .i64 x.A, .int .i64 x.AN, .int .i64 x.B, .int .i64 x.BN, y] 44 1 1 (by decide)
theorem hkC_one (x : Hk) {o : Option Addr} {n c : Nat} : ∀ u ∈ hkC x (.slice o n c), u.oneCell' = true := by
  intro u hu
  simp only [hkC, List.mem_cons, List.not_mem_nil, or_false] at hu
  rcases hu with rfl | rfl | rfl | rfl | rfl <;> rfl
theorem Hx.setl {u : World} {b : Nat} {h : Hk} {v : Value} (q : Hx u b h v) (z : Value) : Hx (u.setCell ⟨b, 4, none⟩ z) b h z := heap_setCell_same u b 4 _ _ z q

set_option maxRecDepth 10000 in
set_option maxHeartbeats 4000000 in
theorem rCopy_f (p : List (Hk × Value)) (v : Value) (w : World) (hv : HHp w v p) (hok : HOk p) : Calls Tryd.prog 19 #[v] w fun e w' => ∃ v' P, e = .returned v' ∧ Hs w v' P w' ∧ P.map (·.1) = p.map (·.1) := by
  obtain ⟨vo, vc, rfl⟩ := Holds.form hv.row
  have hpl : p.length ≤ 1099511627776 := hok.1
  have HOK : Hid (HOk p) := hok
  clear hok
  go_enter Tryd.func19, Tryd.ntmps19
  go_wp2
  go_loopw [3, 4] (fun ov iv wr => ∃ (k : Nat) (P : List (Hk × Value)), k ≤ p.length ∧ iv = .int .i64 (k : Int) ∧ (∃ oo oc, ov = .slice oo k oc) ∧ Hs w ov P wr ∧ Hid (P.map (·.1) = (p.take k).map (·.1)) ∧ Hid (P.length = k)) (fun _ iv _ => p.length - (intOf iv).toNat)
  case atStart => exact ⟨0, [], Nat.zero_le _, by go_num, ⟨_, _, rfl⟩, Hs.nil w, rfl, rfl⟩
  case round =>
    obtain ⟨k, P, hk, rfl, ⟨oo, oc, rfl⟩, hS, HP, HPL⟩ := hrel
    by_cases hlt : k < p.length
    · obtain ⟨b, off, rfl, hb, _⟩ := hv.at (by omega)
      obtain ⟨x, y, hxy⟩ : ∃ x y, p[k] = (x, y) := ⟨_, _, rfl⟩
      obtain ⟨⟨c0, c1, c2, c3, c4⟩, hm⟩ := hv.take hS.low k hlt hxy
      have hbd := (HOK.out.2 _ (List.getElem_mem hlt)).1
      rw [hxy] at hbd
      dsimp only at hbd
      obtain ⟨yo, yc, rfl⟩ := hm.form
      have i1 : 0 ≤ (k : Int) := by omega
      have i2 : (k : Int) < (p.length : Int) := by omega
      have hxb := Hx.new wr x (.slice yo x.ls.length yc)
      have hB1 : Below wr.heap.size wr (wr.alloc (hkO x (.slice yo x.ls.length yc))) := (Below.refl _ wr).alloc (Nat.le_refl _) _
      have hS1 := hS.alloc (hkO x (.slice yo x.ls.length yc))
      have hm1 := HMk.keep hm hB1 (Nat.le_refl _)
      have hsz1 : (wr.alloc (hkO x (.slice yo x.ls.length yc))).heap.size = wr.heap.size + 1 := by simp
      have hW1 : wr.alloc (Obj.cells #[Value.int IntKind.i64 x.A, Value.int IntKind.i64 x.AN, Value.int IntKind.i64 x.B, Value.int IntKind.i64 x.BN, .slice yo x.ls.length yc] 44) = wr.alloc (hkO x (.slice yo x.ls.length yc)) := rfl
      go_upto_region 6 with fail
      generalize wr.alloc (hkO x (.slice yo x.ls.length yc)) = W1 at *
      clear hW1
      obtain ⟨x0, x1, x2, x3, x4⟩ := hxb.cells
      have hB2 : Below W1.heap.size W1 (W1.alloc (.cells #[] 50)) := (Below.refl _ W1).alloc (Nat.le_refl _) _
      have hxb2 := hxb.low hB2
      have hm2 := HMk.keep hm1 hB2 (Nat.le_refl _)
      have hS2 := hS1.alloc (.cells #[] 50)
      have hnil := nil_row_new (e := 50) (s := 2) W1 w.heap.size W1.heap.size rfl (by have := hS1.low.size; exact this)
      obtain ⟨y0, y1, y2, y3, y4⟩ := hxb2.cells
      have hlow1 := hS1.low.size
      have hsW2 : (W1.alloc (.cells #[] 50)).heap.size = W1.heap.size + 1 := by simp
      have HSW2 : Hid ((W1.alloc (.cells #[] 50)).heap.size = W1.heap.size + 1) := hsW2
      have HSZ1 : Hid (W1.heap.size = wr.heap.size + 1) := hsz1
      clear hsW2 hsz1
      go_wp2_with (at_builtin; refine wpList_append_w _ (by kernel_rfl) (.tmp 16) (.tmp 18) 42 50 (.agg #[.int .u8 0, .string ⟨#[]⟩]) 2 24 rfl Tryd.underlying42 infoMk rfl (by decide) (by decide) w.heap.size _ _ _ rfl hnil _ x.ls.length (mkcells x.ls) rfl hm2 (mkcells_length _) (mkcells_one _) (by omega) (by have := HSW2.out; omega) ?_)
      intro v3 W3 hown3 hg3 hob3
      obtain ⟨ro, rc, rfl⟩ := (holds_of hown3).form
      have hS3 : Hs w (.slice oo k oc) P W3 := hS.fresh hS2 (k := W1.heap.size) (by have := HSZ1.out; omega) hg3
      have hxb3 : Hx W3 wr.heap.size x (.slice yo x.ls.length yc) := hxb2.keep hg3 (by simp [Value.ownBlock]; have := HSZ1.out; omega)
      obtain ⟨z0, z1, z2, z3, z4⟩ := hxb3.cells
      have zf := hxb3.frozen 4
      have hxb4 := hxb3.setl (.slice ro x.ls.length rc)
      have hg4 := grown_set W3 wr.heap.size 4 (.slice ro x.ls.length rc)
      have hS4 : Hs w (.slice oo k oc) P (W3.setCell ⟨wr.heap.size, 4, none⟩ (.slice ro x.ls.length rc)) := hS.fresh hS3 (k := wr.heap.size) (Nat.le_refl _) hg4
      have hown4 : (W3.setCell ⟨wr.heap.size, 4, none⟩ (.slice ro x.ls.length rc)).ownsRow w.heap.size 50 2 (.slice ro x.ls.length rc) x.ls.length (mkcells x.ls) := hown3.kept hg4 (.inr (by
        have e1 := HSZ1.out
        have e2 := HSW2.out
        rcases hob3 with hob3 | hob3
        · rw [hob3]; simp [Value.ownBlock]; omega
        · rw [hob3]; simp only [ne_eq, Option.some.injEq]; omega))
      obtain ⟨t0, t1, t2, t3, t4⟩ := hxb4.cells
      clear hg3 hg4 hob3 hnil hS2 hS3 hxb hxb2 hxb3 hm1 hm2 x0 x1 x2 x3 x4 y0 y1 y2 y3 y4
      go_upto_region 7 with fail
      generalize W3.setCell ⟨wr.heap.size, 4, none⟩ (.slice ro x.ls.length rc) = W4 at *
      have hS5 := hS4.alloc (hkO x (.slice ro x.ls.length rc))
      have hrow5 := one_row W4 x (.slice ro x.ls.length rc)
      have hown5 := hown4.alloc (hkO x (.slice ro x.ls.length rc))
      have hl4 := hS4.low.size
      have hW5 : W4.alloc (Obj.cells #[Value.int IntKind.i64 x.A, Value.int IntKind.i64 x.AN, Value.int IntKind.i64 x.B, Value.int IntKind.i64 x.BN, .slice ro x.ls.length rc] 44) = W4.alloc (hkO x (.slice ro x.ls.length rc)) := rfl
      have HS5 : Hid ((W4.alloc (hkO x (.slice ro x.ls.length rc))).heap.size = W4.heap.size + 1) := (by show _ = _; simp)
      have hownP := hS5.own
      rw [HPL.out] at hownP
      go_wp2_with (at_builtin; refine wpList_append_w _ (by kernel_rfl) (.tmp 21) (.tmp 23) 22 44 (.agg #[.int .i64 0, .int .i64 0, .int .i64 0, .int .i64 0, .slice none 0 0]) 5 56 rfl Tryd.underlying22 infoHk rfl (by decide) (by decide) w.heap.size _ _ _ rfl hownP _ 1 (hkC x (.slice ro x.ls.length rc)) rfl hrow5 rfl (hkC_one _) (by omega) (by have := HS5.out; omega) ?_)
      intro v6 W6 hown6 hg6 _
      have hS6 := hS5.more hown5 hg6 (ov' := v6) (by rw [HPL.out]; exact hown6)
      obtain ⟨ro6, rc6, rfl⟩ := (holds_of hown6).form
      have HP2 : Hid ((P ++ [(x, Value.slice ro x.ls.length rc)]).map (·.1) = (p.take (k + 1)).map (·.1)) := (by
        show _ = _
        rw [List.map_append, HP.out, List.take_succ_eq_append_getElem hlt, List.map_append, hxy]
        rfl)
      have HPL2 : Hid ((P ++ [(x, Value.slice ro x.ls.length rc)]).length = k + 1) := (by show _ = _; rw [List.length_append, HPL.out]; rfl)
      clear hg6 hown6 hownP hrow5
      go_wp2
      exact ⟨⟨k + 1, P ++ [(x, .slice ro x.ls.length rc)], by omega, by go_num, ⟨_, _, rfl⟩, hS6, HP2, HPL2⟩, by simp [intOf]; omega⟩
    · have hend : decide ((k : Int) < (p.length : Int)) = false := decide_eq_false (by omega)
      obtain rfl : k = p.length := by omega
      go_wp2
      go_ret
      refine ⟨_, rfl, P, hS, ?_⟩
      rw [HP.out, List.take_length]
end Go.Proofs.YtgcccpmcbjfaaaaDoor

/- The code's small functions of layer 11, walked: the lines of a side, numbers, places, signs. -/
namespace Go.Proofs.YtgcccpmcbjfaaaaDoor
open Go.RowKit

/-- which sign a side has, and which it has not -/
def Sd (sg no : Int) : Prop := sg = 45 ∧ no = 43 ∨ sg = 43 ∧ no = 45
theorem sd_iff {sg no : Int} (h : Sd sg no) (s : Int) : (s ≠ no ∧ okS s = true) ↔ (s = 32 ∨ s = sg) := by
  simp only [okS, Bool.or_eq_true, decide_eq_true_eq]
  rcases h with ⟨rfl, rfl⟩ | ⟨rfl, rfl⟩ <;> omega
theorem pk_take {sg no : Int} (h : Sd sg no) {s : Int} (hs : s = 32 ∨ s = sg) {out R : List (List UInt8)} {tx : List UInt8} {l : List Mk} (hI : out ++ (if s ≠ no ∧ okS s = true then tx :: pkL no l else pkL no l) = R) : out ++ [tx] ++ pkL no l = R := by
  rw [if_pos ((sd_iff h s).2 hs)] at hI
  rw [← hI]
  simp
theorem pk_pass {sg no : Int} (h : Sd sg no) {s : Int} (h1 : s ≠ 32) (h2 : s ≠ sg) {out R : List (List UInt8)} {tx : List UInt8} {l : List Mk} (hI : out ++ (if s ≠ no ∧ okS s = true then tx :: pkL no l else pkL no l) = R) : out ++ pkL no l = R := by
  rw [if_neg (fun q => by rcases (sd_iff h s).1 q with q | q <;> contradiction)] at hI
  exact hI

theorem owns_less {u : World} {base base' : Nat} {e : TypeId} {s : Nat} {v : Value} {n : Nat} {xs : List Value} (h : u.ownsRow base e s v n xs) (hb : base' ≤ base) : u.ownsRow base' e s v n xs := by
  refine ⟨h.1, ?_⟩
  rcases h.2 with q | ⟨b, cap, cur, rfl, q2, q3, q4⟩
  · exact .inl q
  · exact .inr ⟨b, cap, cur, rfl, Nat.le_trans hb q2, q3, q4⟩

set_option maxHeartbeats 2000000 in
theorem hside_o (h : Hk) (v : Value) (sd no : Int) (HSD : Hid (Sd sd no)) (w : World) (hv : HMk w v h.ls) (hl : h.ls.length ≤ 1099511627776) (R : List (List UInt8)) (HR : Hid (pkL no h.ls = R)) : Calls Tryd.prog 48 #[hkV h v, .int .u8 sd] w fun e w' => ∃ v', e = .returned v' ∧ w'.ownsRow w.heap.size 9 1 v' R.length (scells R) ∧ Below w.heap.size w w' := by
  obtain ⟨A, AN, B, BN, ls⟩ := h
  dsimp only at hv hl HR
  obtain ⟨lo, lc, rfl⟩ := HMk.form hv
  have hx := Hx.new w ⟨A, AN, B, BN, ls⟩ (.slice lo ls.length lc)
  have hBl : Below w.heap.size w (w.alloc (hkO ⟨A, AN, B, BN, ls⟩ (.slice lo ls.length lc))) := (Below.refl _ w).alloc (Nat.le_refl _) _
  have hv1 := HMk.keep hv hBl (Nat.le_refl _)
  obtain ⟨_, _, _, _, x4⟩ := hx.cells
  have hW : w.alloc (Obj.cells #[Value.int IntKind.i64 A, Value.int IntKind.i64 AN, Value.int IntKind.i64 B, Value.int IntKind.i64 BN, .slice lo ls.length lc] 44) = w.alloc (hkO ⟨A, AN, B, BN, ls⟩ (.slice lo ls.length lc)) := rfl
  have HSZ : Hid ((w.alloc (hkO ⟨A, AN, B, BN, ls⟩ (.slice lo ls.length lc))).heap.size = w.heap.size + 1) := (by show _ = _; simp)
  unfold hkV
  dsimp only
  clear hv hx
  generalize w.alloc (hkO ⟨A, AN, B, BN, ls⟩ (.slice lo ls.length lc)) = W at *
  go_enter Tryd.func48, Tryd.ntmps48
  go_wp2
  clear hW x4
  go_loopw [5, 11] (fun ov iv wr => ∃ (k : Nat) (out : List (List UInt8)), k ≤ ls.length ∧ out.length ≤ k ∧ iv = .int .i64 (k : Int) ∧ (∃ oo oc, ov = .slice oo out.length oc) ∧ St W 9 1 ov out.length (scells out) wr ∧ Hid (out ++ pkL no (ls.drop k) = R)) (fun _ iv _ => ls.length - (intOf iv).toNat)
  case atStart => exact ⟨0, [], Nat.zero_le _, Nat.le_refl _, by go_num, ⟨_, _, rfl⟩, ⟨hnil_row _ _ _ _, Below.refl _ _⟩, HR⟩
  case round =>
    obtain ⟨k, out, hk, hok, rfl, ⟨oo, oc, rfl⟩, hS, HI⟩ := hrel
    by_cases hlt : k < ls.length
    · obtain ⟨b, off, rfl, hb, _⟩ := HMk.at hv1 (by omega)
      obtain ⟨m, hm⟩ : ∃ m, ls[k] = m := ⟨_, rfl⟩
      obtain ⟨c0, c1⟩ := Low.mk hS.low hv1 k hlt hm
      have HI2 : Hid (out ++ (if m.sg ≠ no ∧ okS m.sg = true then m.tx :: pkL no (ls.drop (k + 1)) else pkL no (ls.drop (k + 1))) = R) := (by
        show _ = _
        rw [← HI.out, List.drop_eq_getElem_cons hlt, hm]
        rfl)
      have i1 : 0 ≤ (k : Int) := by omega
      have i2 : (k : Int) < (ls.length : Int) := by omega
      obtain ⟨m0, m1⟩ := (Mx.new wr m).cells
      have hS1 := st_alloc (mkO m) hS
      have hsS := hS.low.size
      have HSM : Hid ((wr.alloc (mkO m)).heap.size = wr.heap.size + 1) := (by show _ = _; simp)
      have hW2 : wr.alloc (Obj.cells #[Value.int IntKind.u8 m.sg, Value.string ⟨m.tx.toArray⟩] 50) = wr.alloc (mkO m) := rfl
      clear HI hm HR
      go_upto_region 5 with fail
      obtain ⟨sg, tx⟩ := m
      dsimp only at m0 m1 c0 c1 HI2 hW2
      generalize hwr1 : wr.alloc (mkO ⟨sg, tx⟩) = wr1 at *
      clear hW2
      have hs1 := hS1.low.size
      by_cases h1 : sg = 32
      · subst h1
        have HI3 : Hid (out ++ [tx] ++ pkL no (ls.drop (k + 1)) = R) := pk_take HSD.out (.inl rfl) HI2.out
        clear HI2
        go_wp2_with (at_builtin; refine wpList_append_h _ (by kernel_rfl) (.tmp 24) (.tmp 27) 60 9 (.string ⟨#[]⟩) 1 16 rfl Tryd.underlying60 infoStr rfl (by decide) (by decide) W.heap.size _ _ _ rfl (hS1.own.alloc _) _ 1 (scells [tx]) rfl (new_holds _ _ _ _ _ (by decide)) rfl (scells_one _) (by omega) (by simp; omega) ?_)
        intro v2 w2 hown2 hgrow2
        have hB2 : Below W.heap.size W w2 := (hS1.low.alloc hS1.low.size _).grown hgrow2 (by simp; omega) (fun _ hj => owns_ge hS1.own hj)
        rw [← scells_append] at hown2
        obtain ⟨oo2, oc2, rfl⟩ := (holds_of hown2).form
        clear hgrow2
        go_wp2
        exact ⟨⟨k + 1, out ++ [tx], by omega, by simp; omega, by go_num, ⟨_, _, by rw [List.length_append]; rfl⟩, ⟨by rw [List.length_append]; exact hown2, hB2⟩, HI3⟩, by simp [intOf]; omega⟩
      · have e1 : (sg == 32) = false := by simpa using h1
        by_cases h2 : sg = sd
        · subst h2
          have HI3 : Hid (out ++ [tx] ++ pkL no (ls.drop (k + 1)) = R) := pk_take HSD.out (.inr rfl) HI2.out
          clear HI2 h1
          go_wp2_with (at_builtin; refine wpList_append_h _ (by kernel_rfl) (.tmp 24) (.tmp 27) 60 9 (.string ⟨#[]⟩) 1 16 rfl Tryd.underlying60 infoStr rfl (by decide) (by decide) W.heap.size _ _ _ rfl (hS1.own.alloc _) _ 1 (scells [tx]) rfl (new_holds _ _ _ _ _ (by decide)) rfl (scells_one _) (by omega) (by simp; omega) ?_)
          intro v2 w2 hown2 hgrow2
          have hB2 : Below W.heap.size W w2 := (hS1.low.alloc hS1.low.size _).grown hgrow2 (by simp; omega) (fun _ hj => owns_ge hS1.own hj)
          rw [← scells_append] at hown2
          obtain ⟨oo2, oc2, rfl⟩ := (holds_of hown2).form
          clear hgrow2
          go_wp2
          exact ⟨⟨k + 1, out ++ [tx], by omega, by simp; omega, by go_num, ⟨_, _, by rw [List.length_append]; rfl⟩, ⟨by rw [List.length_append]; exact hown2, hB2⟩, HI3⟩, by simp [intOf]; omega⟩
        · have e2 : (sg == sd) = false := by simpa using h2
          have HI3 : Hid (out ++ pkL no (ls.drop (k + 1)) = R) := pk_pass HSD.out h1 h2 HI2.out
          clear HI2 h1 h2
          go_wp2
          exact ⟨⟨k + 1, out, by omega, by omega, by go_num, ⟨_, _, rfl⟩, hS1, HI3⟩, by simp [intOf]; omega⟩
    · have HI3 : Hid (out = R) := (by
        have h := HI.out
        rw [List.drop_of_length_le (by omega)] at h
        show out = R
        simpa [pkL] using h)
      clear HI
      have hend : decide ((k : Int) < (ls.length : Int)) = false := decide_eq_false (by omega)
      go_wp2
      go_ret
      refine ⟨_, rfl, ?_, hBl.trans (hS.low.mono (by have := HSZ.out; omega))⟩
      rw [← HI3.out]
      exact owns_less hS.own (by have := HSZ.out; omega)
theorem hside_f (h : Hk) (v : Value) (sd no : Int) (HSD : Hid (Sd sd no)) (w : World) (hv : HMk w v h.ls) (hl : h.ls.length ≤ 1099511627776) (R : List (List UInt8)) (HR : Hid (pkL no h.ls = R)) : Calls Tryd.prog 48 #[hkV h v, .int .u8 sd] w fun e w' => ∃ v', e = .returned v' ∧ HS w' v' R ∧ Below w.heap.size w w' := by
  refine (hside_o h v sd no HSD w hv hl R HR).mono ?_
  rintro e w1 ⟨v1, rfl, h1, hB1⟩
  exact ⟨v1, rfl, holds_of h1, hB1⟩
theorem hOld_o (h : Hk) (v : Value) (w : World) (hv : HMk w v h.ls) (hl : h.ls.length ≤ 1099511627776) (R : List (List UInt8)) (HR : Hid (oldL h = R)) : Calls Tryd.prog 32 #[hkV h v] w fun e w' => ∃ v', e = .returned v' ∧ w'.ownsRow w.heap.size 9 1 v' R.length (scells R) ∧ Below w.heap.size w w' := by
  have hBl : Below w.heap.size w (w.alloc (hkO h v)) := (Below.refl _ w).alloc (Nat.le_refl _) _
  have hv1 := HMk.keep hv hBl (Nat.le_refl _)
  obtain ⟨c0, c1, c2, c3, c4⟩ := (Hx.new w h v).cells
  unfold hkO at c0 c1 c2 c3 c4 hBl hv1
  obtain ⟨lo, lc, rfl⟩ := HMk.form hv
  have e : hkV h (.slice lo h.ls.length lc) = .agg #[.int .i64 h.A, .int .i64 h.AN, .int .i64 h.B, .int .i64 h.BN, .slice lo h.ls.length lc] := rfl
  rw [e]
  go_enter Tryd.func32, Tryd.ntmps32
  go_wp2_with fail
  refine (hside_o h _ 45 43 (.inl ⟨rfl, rfl⟩) _ hv1 hl R HR).mono ?_
  rintro e w1 ⟨v1, rfl, hv1, hB1⟩
  obtain ⟨vo, vc, rfl⟩ := Holds.form (holds_of hv1)
  go_wp2
  go_ret
  exact ⟨_, rfl, owns_less hv1 hBl.size, hBl.trans (hB1.mono hBl.size)⟩
theorem hOld_f (h : Hk) (v : Value) (w : World) (hv : HMk w v h.ls) (hl : h.ls.length ≤ 1099511627776) (R : List (List UInt8)) (HR : Hid (oldL h = R)) : Calls Tryd.prog 32 #[hkV h v] w fun e w' => ∃ v', e = .returned v' ∧ HS w' v' R ∧ Below w.heap.size w w' := by
  refine (hOld_o h v w hv hl R HR).mono ?_
  rintro e w1 ⟨v1, rfl, h1, hB1⟩
  exact ⟨v1, rfl, holds_of h1, hB1⟩
theorem hNew_o (h : Hk) (v : Value) (w : World) (hv : HMk w v h.ls) (hl : h.ls.length ≤ 1099511627776) (R : List (List UInt8)) (HR : Hid (newL h = R)) : Calls Tryd.prog 33 #[hkV h v] w fun e w' => ∃ v', e = .returned v' ∧ w'.ownsRow w.heap.size 9 1 v' R.length (scells R) ∧ Below w.heap.size w w' := by
  have hBl : Below w.heap.size w (w.alloc (hkO h v)) := (Below.refl _ w).alloc (Nat.le_refl _) _
  have hv1 := HMk.keep hv hBl (Nat.le_refl _)
  obtain ⟨c0, c1, c2, c3, c4⟩ := (Hx.new w h v).cells
  unfold hkO at c0 c1 c2 c3 c4 hBl hv1
  obtain ⟨lo, lc, rfl⟩ := HMk.form hv
  have e : hkV h (.slice lo h.ls.length lc) = .agg #[.int .i64 h.A, .int .i64 h.AN, .int .i64 h.B, .int .i64 h.BN, .slice lo h.ls.length lc] := rfl
  rw [e]
  go_enter Tryd.func33, Tryd.ntmps33
  go_wp2_with fail
  refine (hside_o h _ 43 45 (.inr ⟨rfl, rfl⟩) _ hv1 hl R HR).mono ?_
  rintro e w1 ⟨v1, rfl, hv1, hB1⟩
  obtain ⟨vo, vc, rfl⟩ := Holds.form (holds_of hv1)
  go_wp2
  go_ret
  exact ⟨_, rfl, owns_less hv1 hBl.size, hBl.trans (hB1.mono hBl.size)⟩
theorem hNew_f (h : Hk) (v : Value) (w : World) (hv : HMk w v h.ls) (hl : h.ls.length ≤ 1099511627776) (R : List (List UInt8)) (HR : Hid (newL h = R)) : Calls Tryd.prog 33 #[hkV h v] w fun e w' => ∃ v', e = .returned v' ∧ HS w' v' R ∧ Below w.heap.size w w' := by
  refine (hNew_o h v w hv hl R HR).mono ?_
  rintro e w1 ⟨v1, rfl, h1, hB1⟩
  exact ⟨v1, rfl, holds_of h1, hB1⟩

/-- may a hunk say that number of its lines? -/
def nmB (a n : Int) : Bool := nat31 a && nat31 n && !(decide (a = 0) && decide (0 < n))
theorem hnumbered_f (a n : Int) (w : World) (r : Bool) (HR : Hid (nmB a n = r)) : Calls Tryd.prog 31 #[.int .i64 a, .int .i64 n] w fun e w' => e = .returned (.bool r) ∧ w' = w := by
  have hr : r = true ↔ (0 ≤ a ∧ a ≤ 2147483647 ∧ 0 ≤ n ∧ n ≤ 2147483647 ∧ (0 < a ∨ n = 0)) := by
    rw [← HR.out]
    unfold nmB nat31
    simp only [Bool.and_eq_true, decide_eq_true_eq, Bool.not_eq_true', Bool.and_eq_false_iff, decide_eq_false_iff_not]
    omega
  have HRR : Hid (r = true ↔ (0 ≤ a ∧ a ≤ 2147483647 ∧ 0 ≤ n ∧ n ≤ 2147483647 ∧ (0 < a ∨ n = 0))) := hr
  clear hr HR
  have no : ∀ {p : Prop}, p → (p → ¬ (0 ≤ a ∧ a ≤ 2147483647 ∧ 0 ≤ n ∧ n ≤ 2147483647 ∧ (0 < a ∨ n = 0))) → Ending.returned (.bool false) = .returned (.bool r) := fun hp h => by
    cases r with
    | false => rfl
    | true => exact absurd (HRR.out.1 rfl) (h hp)
  go_enter Tryd.func31, Tryd.ntmps31
  by_cases h1 : a < 0
  · go_wp2
    go_ret
    exact ⟨no h1 (fun _ => by omega), rfl⟩
  · have e1 : decide (a < 0) = false := decide_eq_false h1
    by_cases h2 : 2147483647 < a
    · go_wp2
      go_ret
      exact ⟨no h2 (fun _ => by omega), rfl⟩
    · have e2 : decide (2147483647 < a) = false := decide_eq_false h2
      by_cases h3 : n < 0
      · go_wp2
        go_ret
        exact ⟨no h3 (fun _ => by omega), rfl⟩
      · have e3 : decide (n < 0) = false := decide_eq_false h3
        by_cases h4 : 2147483647 < n
        · go_wp2
          go_ret
          exact ⟨no h4 (fun _ => by omega), rfl⟩
        · have e4 : decide (2147483647 < n) = false := decide_eq_false h4
          by_cases h5 : 0 < a
          · obtain rfl : r = true := HRR.out.2 (by omega)
            go_wp2
            go_ret
            exact ⟨rfl, rfl⟩
          · have e5 : decide (0 < a) = false := decide_eq_false h5
            by_cases h6 : n = 0
            · obtain rfl : r = true := HRR.out.2 (by omega)
              subst h6
              go_wp2
              go_ret
              exact ⟨rfl, rfl⟩
            · have e6 : (n == 0) = false := by simpa using h6
              go_wp2
              go_ret
              exact ⟨no h6 (fun _ => by omega), rfl⟩
/-- is a line changed? is its sign none? -/
def chgB (m : Mk) : Bool := decide (m.sg = 45) || decide (m.sg = 43)
theorem hchanged_f (m : Mk) (w : World) : Calls Tryd.prog 37 #[.agg #[.int .u8 m.sg, .string ⟨m.tx.toArray⟩]] w fun e w' => e = .returned (.bool (chgB m)) ∧ Below w.heap.size w w' := by
  obtain ⟨sg, tx⟩ := m
  obtain ⟨m0, m1⟩ := (Mx.new w ⟨sg, tx⟩).cells
  have hB : Below w.heap.size w (w.alloc (mkO ⟨sg, tx⟩)) := (Below.refl _ w).alloc (Nat.le_refl _) _
  unfold mkO at m0 m1 hB
  dsimp only at m0 m1 hB
  unfold chgB
  by_cases h1 : sg = 45
  · subst h1
    go_enter Tryd.func37, Tryd.ntmps37
    go_wp2
    go_ret
    exact ⟨rfl, hB⟩
  · have e1 : (sg == 45) = false := by simpa using h1
    by_cases h2 : sg = 43
    · subst h2
      go_enter Tryd.func37, Tryd.ntmps37
      go_wp2
      go_ret
      exact ⟨rfl, hB⟩
    · have e2 : (sg == 43) = false := by simpa using h2
      have HE : Hid ((decide (sg = 45) || decide (sg = 43)) = false) := (by show _ = _; simp [h1, h2])
      rw [HE.out]
      clear HE h1 h2
      go_enter Tryd.func37, Tryd.ntmps37
      go_wp2
      go_ret
      exact ⟨rfl, hB⟩
theorem hstrange_f (m : Mk) (w : World) : Calls Tryd.prog 35 #[.agg #[.int .u8 m.sg, .string ⟨m.tx.toArray⟩]] w fun e w' => e = .returned (.bool (!okS m.sg)) ∧ Below w.heap.size w w' := by
  obtain ⟨m0, m1⟩ := (Mx.new w m).cells
  have hB : Below w.heap.size w (w.alloc (mkO m)) := (Below.refl _ w).alloc (Nat.le_refl _) _
  have hW : w.alloc (.cells #[.int .u8 m.sg, .string ⟨m.tx.toArray⟩] 50) = w.alloc (mkO m) := rfl
  generalize w.alloc (mkO m) = W at *
  by_cases h1 : m.sg = 32
  · have HE : Hid (okS m.sg = true) := (by show _ = _; rw [h1]; rfl)
    rw [HE.out]
    have e1 : (m.sg != 32) = false := by simpa using h1
    clear HE h1
    go_enter Tryd.func35, Tryd.ntmps35
    go_wp2
    go_ret
    exact ⟨rfl, hB⟩
  · have e1 : (m.sg != 32) = true := by simpa using h1
    obtain ⟨r, hr⟩ : ∃ r, chgB m = r := ⟨_, rfl⟩
    have HE : Hid (okS m.sg = r) := (by
      show _ = _
      rw [← hr]
      unfold okS chgB
      simp [h1])
    have HC := hchanged_f m W
    rw [hr] at HC
    rw [HE.out]
    clear HE h1 hr
    go_enter Tryd.func35, Tryd.ntmps35
    go_wp2_with fail
    refine HC.mono ?_
    rintro e w1 ⟨rfl, hB1⟩
    go_wp2
    go_ret
    exact ⟨rfl, hB.trans (hB1.mono hB.size)⟩
end Go.Proofs.YtgcccpmcbjfaaaaDoor

/- Which lists of changes are edit scripts: the reference's Check, walked. -/
namespace Go.Proofs.YtgcccpmcbjfaaaaDoor
open Go.RowKit

end Go.Proofs.YtgcccpmcbjfaaaaDoor

/- The reference's Invert of layer 11, walked. -/
namespace Go.Proofs.YtgcccpmcbjfaaaaDoor
open Go.RowKit

/-- two operations that yield values, whichever comes first -/
theorem go_two {P : Program} {S : World → Prop} {md : Region.Mode} {ops : Array Oper} {Q : Exit → Act → World → Prop} {fuel : Nat} {listed : Array Bool} {A : Act} {w : World}
    (i d : Nat) (op : Oper) (j e : Nat) (oq : Oper) (hi : ops[i]? = some op) (hd : op.dst = some d) (hj : ops[j]? = some oq) (he : oq.dst = some e) (hr : Region.ready md ops listed = [i, j]) (hwt : Region.wanted op (yielded ops A.tmps) = true) (hwq : Region.wanted oq (yielded ops A.tmps) = true)
    (vp : Value) (wp : World) (hp : (execOp A.eval op).run P w = .ok (.value vp) wp) (hSp : S wp)
    (vq : Value) (wq : World) (hq : (execOp A.eval oq).run P w = .ok (.value vq) wq) (hSq : S wq)
    (h : wpAnyH P md ops Q S fuel (listed.setIfInBounds i true) (A.put (some d) vp) wp)
    (h2 : wpAnyH P md ops Q S fuel (listed.setIfInBounds j true) (A.put (some e) vq) wq) :
    wpAnyH P md ops Q S (fuel + 1) listed A w := by
  refine wpAnyH_ready hr (by simp) (AllReadyH.cons hi (fun K hK => ?_) (AllReadyH.cons hj (fun K hK => ?_) AllReadyH.nil))
  · refine step_want hwt ?_
    unfold Oper.wp
    rw [hp, Oper.upon_value]
    exact hK.out _ _ hSp (fun _ => by rw [hd]; exact h)
  · refine step_want hwq ?_
    unfold Oper.wp
    rw [hq, Oper.upon_value]
    exact hK.out _ _ hSq (fun _ => by rw [he]; exact h2)
/-- append, run by itself -/
theorem exec_app {w w' : World} {T : TypeId} {v vx v' : Value} {op : Oper} (x y : Operand) (ho : op.op = .call { callee := .builtin .append, args := #[x, y], argTypes := #[T, T] }) {ev : Operand → Value} (hx : ev x = v) (hy : ev y = vx) (hr : (Builtin.append_ #[T, T] op.type #[v, vx]).run Tryd.prog w = .ok v' w') :
    (execOp ev op).run Tryd.prog w = .ok (.value v') w' := by
  simp [execOp, ho, resolve, invoke, builtin, hx, hy, hr, Result.andThen]
/-- a line is read out of its box -/
theorem load_mk {u : World} {b : Nat} {m : Mk} (q : Mx u b m) {op : Oper} (x : Operand) (ho : op.op = .load 50 x) {ev : Operand → Value} (hx : ev x = .pointer (some ⟨b, 0, none⟩)) :
    (execOp ev op).run Tryd.prog u = .ok (.value (.agg #[.int .u8 m.sg, .string ⟨m.tx.toArray⟩])) u := by
  have hL : (loadVar 50 ⟨b, 0, none⟩).run Tryd.prog u = .ok (.agg #[.int .u8 m.sg, .string ⟨m.tx.toArray⟩]) u := run_loadVar_row u b _ _ _ _ _ q Tryd.underlying50 rfl (by kernel_rfl)
  simp only [execOp, ho, hx, Instr.loadAt, Instr.sureAddr, Sem.run_bind, Sem.run_pure, Result.andThen_ok, hL]
theorem load_mks {u : World} {a : Addr} {o : Option Addr} {n c : Nat} (h : u.cell? a = some (.slice o n c)) {op : Oper} (x : Operand) (ho : op.op = .load 42 x) {ev : Operand → Value} (hx : ev x = .pointer (some a)) :
    (execOp ev op).run Tryd.prog u = .ok (.value (.slice o n c)) u := by
  simp only [execOp, ho, hx]
  go_simp

/-- lines that grow in a hunk's box, and lines that wait: all else as it was -/
structure Iv (w : World) (q : Hk) (ov : Value) (x : List Mk) (av : Value) (y : List Mk) (u : World) : Prop where
  low : Below w.heap.size w u
  box : Hx u w.heap.size q ov
  own : u.ownsRow (w.heap.size + 1) 50 2 ov x.length (mkcells x)
  add : u.ownsRow (w.heap.size + 1) 50 2 av y.length (mkcells y)
  ne : ∀ g, ov.ownBlock = some g → av.ownBlock ≠ some g
section
variable {w : World} {q : Hk} {ov ov' av av' : Value} {x x' y y' : List Mk} {u u' : World}
theorem Iv.alloc (h : Iv w q ov x av y u) (o : Obj) : Iv w q ov x av y (u.alloc o) :=
  ⟨h.low.alloc h.low.size o, h.box.low ((Below.refl _ u).alloc (Nat.le_refl _) o), h.own.alloc o, h.add.alloc o, h.ne⟩
theorem Iv.drewN (h : Iv w q ov x av y u) (n : Nat) : Iv w q ov x av y (u.drewN n) := ⟨Below.dN h.low n, h.box, h.own, h.add, h.ne⟩
theorem own_kept {e : TypeId} {s B : Nat} {v : Value} {n : Nat} {xs : List Value} (ho : u.ownsRow B e s v n xs) {g : Option Nat} (hg : u.grownBy u' g) (hne : ∀ k, g = some k → v.ownBlock ≠ some k) : u'.ownsRow B e s v n xs := by
  refine ⟨ho.1, ?_⟩
  rcases ho.2 with q | ⟨b, cap, cur, rfl, q2, q3, q4⟩
  · exact .inl q
  · refine .inr ⟨b, cap, cur, rfl, q2, ?_, q4⟩
    rw [hg.block b (Array.getElem?_eq_some_iff.1 q3).1 (fun e => hne b e.symm rfl)]
    exact q3
/-- lines more -/
theorem Iv.grow (h : Iv w q ov x av y u) (hg : u.grownBy u' ov.ownBlock) (ho : u'.ownsRow (w.heap.size + 1) 50 2 ov' x'.length (mkcells x')) (hb : ov'.ownBlock = ov.ownBlock ∨ ov'.ownBlock = some u.heap.size) : Hx u' w.heap.size q ov ∧ Iv w q ov' x' av y (u'.setCell ⟨w.heap.size, 4, none⟩ ov') := by
  have hbx : Hx u' w.heap.size q ov := h.box.keep hg (fun e => by have := owns_ge h.own e.symm; omega)
  have hadd := own_kept h.add hg (fun k hk => h.ne k hk)
  have hs := grown_set u' w.heap.size 4 ov'
  have hlow : Below w.heap.size w u' := h.low.grown hg h.low.size (fun j hj => by have := owns_ge h.own hj; omega)
  refine ⟨hbx, hlow.grown hs hlow.size (fun j hj => by cases hj; exact Nat.le_refl _), hbx.setl ov', own_kept ho hs ?_, own_kept hadd hs ?_, ?_⟩
  · intro k hk e
    cases hk
    have := owns_ge ho e
    omega
  · intro k hk e
    cases hk
    have := owns_ge h.add e
    omega
  · intro g hg' e
    rcases hb with hb | hb
    · rw [hb] at hg'
      exact h.ne g hg' e
    · rw [hb] at hg'
      cases hg'
      have := own_lt h.add e
      omega
/-- lines more that wait -/
theorem Iv.wait (h : Iv w q ov x av y u) (hg : u.grownBy u' av.ownBlock) (ho : u'.ownsRow (w.heap.size + 1) 50 2 av' y'.length (mkcells y')) (hb : av'.ownBlock = av.ownBlock ∨ av'.ownBlock = some u.heap.size) : Iv w q ov x av' y' u' := by
  refine ⟨h.low.grown hg h.low.size (fun j hj => by have := owns_ge h.add hj; omega), h.box.keep hg (fun e => by have := owns_ge h.add e.symm; omega), own_kept h.own hg (fun k hk e => h.ne k e hk), ho, ?_⟩
  intro g hg' e
  rcases hb with hb | hb
  · rw [hb] at e
    exact h.ne g hg' e
  · rw [hb] at e
    cases e
    have := own_lt h.own hg'
    omega
/-- lines more, and none that wait -/
theorem Iv.last (h : Iv w q ov x av y u) (hg : u.grownBy u' ov.ownBlock) (ho : u'.ownsRow (w.heap.size + 1) 50 2 ov' x'.length (mkcells x')) : Hx u' w.heap.size q ov ∧ Iv w q ov' x' (.slice none 0 0) [] (u'.setCell ⟨w.heap.size, 4, none⟩ ov') := by
  have hbx : Hx u' w.heap.size q ov := h.box.keep hg (fun e => by have := owns_ge h.own e.symm; omega)
  have hs := grown_set u' w.heap.size 4 ov'
  have hlow : Below w.heap.size w u' := h.low.grown hg h.low.size (fun j hj => by have := owns_ge h.own hj; omega)
  refine ⟨hbx, hlow.grown hs hlow.size (fun j hj => by cases hj; exact Nat.le_refl _), hbx.setl ov', own_kept ho hs ?_, hnil_row _ _ _ _, fun g _ e => by cases e⟩
  intro k hk e
  cases hk
  have := owns_ge ho e
  omega
theorem grown_then {r r' : Option Nat} {u'' : World} (h : u.grownBy u' r) (h' : u'.grownBy u'' r') (hr : r' = r ∨ ∃ k, r' = some k ∧ u.heap.size ≤ k) : u.grownBy u'' r := by
  refine ⟨h'.os.trans h.os, h'.tape.trans h.tape, h'.output.trans h.output, Nat.le_trans h.size h'.size, fun k hk hne => ?_⟩
  rw [h'.block k (Nat.lt_of_lt_of_le hk h.size) ?_]
  · exact h.block k hk hne
  · intro e
    rcases hr with hr | ⟨j, hr, hj⟩
    · exact hne (e.trans hr)
    · rw [hr] at e
      cases e
      omega
theorem grown_alloc {r : Option Nat} (h : u.grownBy u' r) (o : Obj) : u.grownBy (u'.alloc o) r :=
  ⟨h.os, h.tape, h.output, Nat.le_trans h.size (by simp), fun k hk hne => by rw [Below.heap_alloc _ _ _ (Nat.lt_of_lt_of_le hk h.size)]; exact h.block k hk hne⟩
theorem Hx.put5 {b : Nat} {h : Hk} {v : Value} (p : Hx u b h v) (z0 z1 z2 z3 z4 : Value) : (((((u.setCell ⟨b, 0, none⟩ z0).setCell ⟨b, 1, none⟩ z1).setCell ⟨b, 2, none⟩ z2).setCell ⟨b, 3, none⟩ z3).setCell ⟨b, 4, none⟩ z4).heap[b]? = some (.cells #[z0, z1, z2, z3, z4] 44 (0, 0)) := by
  have s1 := heap_setCell_same u b 0 _ _ z0 p
  have s2 := heap_setCell_same _ b 1 _ _ z1 s1
  have s3 := heap_setCell_same _ b 2 _ _ z2 s2
  have s4 := heap_setCell_same _ b 3 _ _ z3 s3
  exact heap_setCell_same _ b 4 _ _ z4 s4
theorem own_base {e : TypeId} {s B B' : Nat} {v : Value} {n : Nat} {xs : List Value} (ho : u.ownsRow B e s v n xs) (hB : B' ≤ B) : u.ownsRow B' e s v n xs := by
  refine ⟨ho.1, ?_⟩
  rcases ho.2 with q | ⟨b, cap, cur, rfl, q2, q3, q4⟩
  · exact .inl q
  · exact .inr ⟨b, cap, cur, rfl, by omega, q3, q4⟩
theorem Iv.none (h : Iv w q ov x av y u) : Iv w q ov x (.slice none 0 0) [] u := ⟨h.low, h.box, h.own, hnil_row _ _ _ _, fun g _ e => by cases e⟩
end
theorem mk_row (w : World) (m : Mk) : Holds (w.alloc (mkO m)) (.slice (some ⟨w.heap.size, 0, none⟩) 1 1) 1 (mkcells [m]) := new_holds w #[.int .u8 m.sg, .string ⟨m.tx.toArray⟩] 50 1 1 (by decide)

theorem exec_storeL {u : World} {b j : Nat} {v : Value} (hf : u.frozen? ⟨b, j, none⟩ = false) {o n c} (hc : u.cell? ⟨b, j, none⟩ = some (.slice o n c)) {o' n' c'} (hv : v = .slice o' n' c') {op : Oper} (x y : Operand) (ho : op.op = .store 42 x y) {ev : Operand → Value} (hx : ev x = .pointer (some ⟨b, j, none⟩)) (hy : ev y = v) :
    (execOp ev op).run Tryd.prog u = .ok .skip (u.setCell ⟨b, j, none⟩ v) := by
  subst hv
  simp only [execOp, ho, hx, hy]
  go_simp

end Go.Proofs.YtgcccpmcbjfaaaaDoor

/- The reference's count of layer 11, walked. -/
namespace Go.Proofs.YtgcccpmcbjfaaaaDoor
open Go.RowKit

section
variable {u : World} {b : Nat} {A AN B BN : Int} {ls : List Mk} {v : Value}
theorem Hx.setA (q : Hx u b ⟨A, AN, B, BN, ls⟩ v) (z : Int) : Hx (u.setCell ⟨b, 0, none⟩ (.int .i64 z)) b ⟨z, AN, B, BN, ls⟩ v := heap_setCell_same u b 0 _ _ _ q
theorem Hx.setAN (q : Hx u b ⟨A, AN, B, BN, ls⟩ v) (z : Int) : Hx (u.setCell ⟨b, 1, none⟩ (.int .i64 z)) b ⟨A, z, B, BN, ls⟩ v := heap_setCell_same u b 1 _ _ _ q
theorem Hx.setB (q : Hx u b ⟨A, AN, B, BN, ls⟩ v) (z : Int) : Hx (u.setCell ⟨b, 2, none⟩ (.int .i64 z)) b ⟨A, AN, z, BN, ls⟩ v := heap_setCell_same u b 2 _ _ _ q
theorem Hx.setBN (q : Hx u b ⟨A, AN, B, BN, ls⟩ v) (z : Int) : Hx (u.setCell ⟨b, 3, none⟩ (.int .i64 z)) b ⟨A, AN, B, z, ls⟩ v := heap_setCell_same u b 3 _ _ _ q
theorem Hx.other (q : Hx u b ⟨A, AN, B, BN, ls⟩ v) {g : Nat} (hg : b ≠ g) (j : Nat) (z : Value) : Hx (u.setCell ⟨g, j, none⟩ z) b ⟨A, AN, B, BN, ls⟩ v := q.keep (grown_set u g j z) (fun e => hg (Option.some.inj e))
end

end Go.Proofs.YtgcccpmcbjfaaaaDoor

/- The reference's one of layer 11, walked. -/
namespace Go.Proofs.YtgcccpmcbjfaaaaDoor
open Go.RowKit

section
variable {u u' : World} {b : Nat} {c : Ch}
end

theorem exec_ixT {u : World} {b off n c i : Nat} (hi : i < n) {op : Oper} (x y : Operand) (ho : op.op = .indexAddr 60 x y) {ev : Operand → Value} (hx : ev x = .slice (some ⟨b, off, none⟩) n c) (hy : ev y = .int .i64 (i : Int)) :
    (execOp ev op).run Tryd.prog u = .ok (.value (.pointer (some ⟨b, off + i, none⟩))) u := by
  have i1 : 0 ≤ (i : Int) := by omega
  have i2 : (i : Int) < (n : Int) := by omega
  simp only [execOp, ho, hx, hy]
  go_simp
theorem load_tx {u : World} {a : Addr} {s : ByteArray} (h : u.cell? a = some (.string s)) {op : Oper} (x : Operand) (ho : op.op = .load 9 x) {ev : Operand → Value} (hx : ev x = .pointer (some a)) :
    (execOp ev op).run Tryd.prog u = .ok (.value (.string s)) u := by
  simp only [execOp, ho, hx]
  go_simp
/-- the cells of a change in a row -/
def ChAt (u : World) (b o : Nat) (x : Ch) : Prop := u.cell? ⟨b, o, none⟩ = some (.int .i64 x.A) ∧ u.cell? ⟨b, o + 1, none⟩ = some (.int .i64 x.AN) ∧ u.cell? ⟨b, o + 2, none⟩ = some (.int .i64 x.B) ∧ u.cell? ⟨b, o + 3, none⟩ = some (.int .i64 x.BN)
theorem hcell_keep {u u' : World} (hB : Low u u') {q : Addr} {z : Value} (hz : u.cell? q = some z) : u'.cell? q = some z := (World.cell?_of_block (w := u) (Below.block hB _ (World.block_lt_of_cell? _ _ hz))).trans hz
theorem ChAt.low {u u' : World} {b o : Nat} {x : Ch} (h : ChAt u b o x) (hB : Low u u') : ChAt u' b o x := ⟨hcell_keep hB h.1, hcell_keep hB h.2.1, hcell_keep hB h.2.2.1, hcell_keep hB h.2.2.2⟩
theorem exec_dec {u : World} {n : Nat} (hn : n ≤ 4611686018427387904) {op : Oper} (x y : Operand) (ho : op.op = .binOp .sub 3 x y 3) {ev : Operand → Value} (hx : ev x = .int .i64 ((n + 1 : Nat) : Int)) (hy : ev y = .int .i64 1) :
    (execOp ev op).run Tryd.prog u = .ok (.value (.int .i64 (n : Int))) u := by
  have e : ((n + 1 : Nat) : Int) - 1 = (n : Int) := by omega
  have e3 : IntKind.i64.wrap (n : Int) = (n : Int) := wrap_s (by omega) (by omega)
  have e4 : wrap64 (n : Int) = (n : Int) := by unfold wrap64; omega
  simp only [execOp, ho, hx, hy]
  go_simp
theorem cut_step {t : List (List UInt8)} {p : Nat} {hi : Int} (h1 : (p : Int) < hi) (h2 : hi ≤ t.length) {s : List UInt8} (hs : t[p]'(by omega) = s) : cut t p (hi - p) = s :: cut t ((p + 1 : Nat) : Int) (hi - ((p + 1 : Nat) : Int)) := by
  simp only [cut, Int.toNat_natCast]
  rw [List.drop_eq_getElem_cons (by omega : p < t.length), hs, show (hi - (p : Int)).toNat = (hi - ((p + 1 : Nat) : Int)).toNat + 1 by omega, List.take_succ_cons]
theorem mks_cons (s : Int) (t : List UInt8) (x : List (List UInt8)) : mks s (t :: x) = ⟨s, t⟩ :: mks s x := rfl

end Go.Proofs.YtgcccpmcbjfaaaaDoor

/- What an argument of type []int, []api.Change holds, and how much of it there is by the statement's own count. -/
namespace Go.Proofs.YtgcccpmcbjfaaaaDoor
open Go.ChangeShapes Go.WideShapes Go.ChangeAt Go.RowKit

theorem own : ownKnob Tryd.prog.godebug = none := by kernel_rfl
theorem laidOut : laidOutB Tryd.prog = true := by kernel_rfl
theorem cellsInt : Tryd.prog.cellsOf 3 = 1 := by kernel_rfl
/-- numbers that an int holds -/
def w64 (z : Int) : Prop := -9223372036854775808 ≤ z ∧ z ≤ 9223372036854775807
theorem w64_of {z : Int} (h : (Lit.int .i64 z).wf = true) : w64 z := bounds_i64 h
/-- a change of numbers that an int holds -/
def wCh (c : Ch) : Prop := w64 c.A ∧ w64 c.AN ∧ w64 c.B ∧ w64 c.BN

theorem lits_len {H : Type} (l : List Int) : l.length ≤ Rows.uptoBulkAll (lits (H := H) .i64 l) := by
  induction l with
  | nil => simp [lits, Rows.uptoBulkAll]
  | cons s t ih =>
    have e : lits (H := H) .i64 (s :: t) = .lit (.int .i64 s) :: lits .i64 t := rfl
    rw [e]
    simp only [Rows.uptoBulkAll, Rows.uptoBulk, List.length_cons]
    omega

theorem bulk_range {H : Type} (D : Nat → DataW H) (n : Nat) (h : ∀ i, i < n → 1 ≤ Rows.uptoBulk (D i)) : n ≤ Rows.uptoBulkAll ((List.range n).map D) := by
  have hall : ∀ l : List (DataW H), (∀ d ∈ l, 1 ≤ Rows.uptoBulk d) → l.length ≤ Rows.uptoBulkAll l := by
    intro l
    induction l with
    | nil => simp
    | cons d t ih =>
      intro hd
      have h1 := hd d (List.mem_cons_self ..)
      have h2 := ih fun x hx => hd x (List.mem_cons_of_mem _ hx)
      rw [Rows.uptoBulkAll]
      simp only [List.length_cons]
      omega
  have := hall ((List.range n).map D) (by
    intro d hd
    simp only [List.mem_map, List.mem_range] at hd
    obtain ⟨i, hi, rfl⟩ := hd
    exact h i hi)
  simpa using this

end Go.Proofs.YtgcccpmcbjfaaaaDoor

/- What an argument of type []string holds, and how much of it there is by the statement's own count. -/
namespace Go.Proofs.YtgcccpmcbjfaaaaDoor
open Go.ChangeShapes Go.WideShapes Go.ChangeAt Go.RowKit

theorem cellsStr : Tryd.prog.cellsOf 9 = 1 := by kernel_rfl
theorem strs_bulk {H : Type} (l : List ByteArray) : l.length + (l.map fun s => s.data.toList).flatten.length ≤ Rows.uptoBulkAll (strs (H := H) l) := by
  induction l with
  | nil => simp [strs, Rows.uptoBulkAll]
  | cons s t ih =>
    have e : strs (H := H) (s :: t) = .lit (.string s.data.toList) :: strs t := rfl
    rw [e, Rows.uptoBulkAll, Rows.uptoBulk]
    simp only [List.length_cons, List.map_cons, List.flatten_cons, List.length_append] at ih ⊢
    omega

/-- the texts that an argument holds -/
theorem open_texts {H : Type} {enc : TypeId × Value → H} {W : World} {fuel : Nat} {ao : Option Addr} {len cap : Nat} {d : DataW H} {p : List MemPlace}
    (h : DataW.trod enc Tryd.prog W 0 (fun _ => true) true fuel 60 [.slice ao len cap] = some (d, p)) :
    ∃ ws : List (List UInt8), HS W (.slice ao len cap) ws ∧ ws.length + ws.flatten.length ≤ Rows.uptoBulk d := by
  rcases open_strings Tryd.underlying60 Tryd.underlying9 cellsStr h with ⟨hcs, hx⟩ | ⟨a, l, c, ss, hcs, _, hl, hm, hz, hx, hcell, _⟩
  · simp at hcs
    obtain ⟨rfl, rfl, rfl⟩ := hcs
    exact ⟨[], .inl ⟨rfl, rfl, rfl⟩, by simp⟩
  · simp at hcs
    obtain ⟨rfl, rfl, rfl⟩ := hcs
    simp at hz
    simp only [Prod.mk.injEq] at hx
    obtain ⟨rfl, _⟩ := hx
    have hlen : ((ss.take len).map fun s => s.data.toList).length = len := by simp; omega
    refine ⟨(ss.take len).map fun s => s.data.toList, .inr ⟨a, cap, by rw [hlen], by omega, fun j u hj => ?_⟩, ?_⟩
    · have hj' : j < len := by
        have := (List.getElem?_eq_some_iff.1 hj).1
        rw [scells_length, hlen] at this
        exact this
      rw [hcell j (by omega)]
      have hjs : j < ss.length := by omega
      simp [scells, hj', hjs] at hj
      simp [List.getD, hjs, ← hj]
    · have := strs_bulk (H := H) (ss.take len)
      rw [Rows.uptoBulk]
      simp only [List.length_map] at this ⊢
      omega
end Go.Proofs.YtgcccpmcbjfaaaaDoor

/- What arguments of type api.Hunk, []api.Hunk hold, and how much of it there is by the statement's own count. -/
namespace Go.Proofs.YtgcccpmcbjfaaaaDoor
open Go.ChangeShapes Go.WideShapes Go.ChangeAt Go.RowKit

theorem cellsMk : Tryd.prog.cellsOf 50 = 2 := by kernel_rfl
theorem cellsHk : Tryd.prog.cellsOf 44 = 5 := by kernel_rfl
theorem cellsU8 : Tryd.prog.cellsOf 5 = 1 := by kernel_rfl
theorem cellsMks : Tryd.prog.cellsOf 42 = 1 := by kernel_rfl
/-- how much lines are, and hunks -/
def mb : List Mk → Nat
  | [] => 0
  | m :: l => m.tx.length + 1 + mb l
def hbk : List Hk → Nat
  | [] => 0
  | h :: l => mb h.ls + 1 + hbk l
theorem mb_len (l : List Mk) : l.length ≤ mb l := by
  induction l with
  | nil => simp
  | cons m l ih => simp only [mb, List.length_cons]; omega
theorem mb_mem (l : List Mk) : ∀ m ∈ l, m.tx.length ≤ mb l := by
  induction l with
  | nil => intro m hm; cases hm
  | cons x l ih =>
    intro m hm
    simp only [mb]
    rcases List.mem_cons.1 hm with rfl | hm
    · omega
    · have := ih m hm
      omega
theorem hb_len (l : List Hk) : l.length ≤ hbk l := by
  induction l with
  | nil => simp
  | cons m l ih => simp only [hbk, List.length_cons]; omega
theorem hb_mem (l : List Hk) : ∀ h ∈ l, mb h.ls ≤ hbk l := by
  induction l with
  | nil => intro m hm; cases hm
  | cons x l ih =>
    intro m hm
    simp only [hbk]
    rcases List.mem_cons.1 hm with rfl | hm
    · omega
    · have := ih m hm
      omega
theorem mb_range (f : Nat → Mk) (n : Nat) : mb ((List.range n).map f) = ((List.range n).map fun i => (f i).tx.length + 1).sum := by
  have key : ∀ l : List Mk, mb l = (l.map fun m => m.tx.length + 1).sum := by
    intro l
    induction l with
    | nil => rfl
    | cons m l ih => simp only [mb, ih, List.map_cons, List.sum_cons]
  rw [key, List.map_map]
  rfl
theorem hb_range (f : Nat → Hk) (n : Nat) : hbk ((List.range n).map f) = ((List.range n).map fun i => mb (f i).ls + 1).sum := by
  have key : ∀ l : List Hk, hbk l = (l.map fun m => mb m.ls + 1).sum := by
    intro l
    induction l with
    | nil => rfl
    | cons m l ih => simp only [hbk, ih, List.map_cons, List.sum_cons]
  rw [key, List.map_map]
  rfl
theorem bulk_sum {H : Type} (D : Nat → DataW H) (c : Nat → Nat) (n : Nat) (h : ∀ i, i < n → c i ≤ Rows.uptoBulk (D i)) : ((List.range n).map c).sum ≤ Rows.uptoBulkAll ((List.range n).map D) := by
  have key : ∀ l : List Nat, (∀ i ∈ l, c i ≤ Rows.uptoBulk (D i)) → (l.map c).sum ≤ Rows.uptoBulkAll (l.map D) := by
    intro l
    induction l with
    | nil => intro _; simp
    | cons i l ih =>
      intro hl
      have h1 := hl i (by simp)
      have h2 := ih fun j hj => hl j (by simp [hj])
      simp only [List.map_cons, List.sum_cons, Rows.uptoBulkAll]
      omega
  exact key _ fun i hi => h i (by simpa using hi)

set_option maxRecDepth 10000 in
theorem open_mks {H : Type} {enc : TypeId × Value → H} {W : World} {fuel : Nat} {cs : List Value} {d : DataW H} {p : List MemPlace}
    (h : DataW.trod enc Tryd.prog W 0 (fun _ => true) true fuel 42 cs = some (d, p)) :
    ∃ (v : Value) (l : List Mk), cs = [v] ∧ HMk W v l ∧ mb l ≤ Rows.uptoBulk d ∧ ∀ m ∈ l, 0 ≤ m.sg ∧ m.sg ≤ 255 := by
  rcases Go.Deep.open_slice Tryd.underlying42 h with ⟨hcs, hx⟩ | ⟨a, len, cap, m, n, D, Pl, hcs, _, hl, hm, hmm, hx, hel⟩
  · exact ⟨_, [], hcs, .inl ⟨rfl, rfl, rfl⟩, by simp [mb], by simp⟩
  · simp only [Prod.mk.injEq] at hx
    obtain ⟨rfl, _⟩ := hx
    have hlm : len ≤ m := by rw [hmm]; split <;> omega
    have each : ∀ i, i < len → ∃ c : Mk, (0 ≤ c.sg ∧ c.sg ≤ 255) ∧ W.cell? (a.add (i * 2)) = some (.int .u8 c.sg) ∧ W.cell? (a.add (i * 2 + 1)) = some (.string ⟨c.tx.toArray⟩) ∧ c.tx.length + 1 ≤ Rows.uptoBulk (D i) := by
      intro i hi
      obtain ⟨cs', h1, h2⟩ := hel i (by omega)
      rw [cellsMk] at h1
      obtain ⟨_, hlen, hcell⟩ := World.cells?_some h1
      obtain ⟨xs, k, hk, hxy, _, hxl, hf⟩ := DataW.trod_struct Tryd.underlying50 h2
      match xs, hxl, cs', hlen with
      | [y0, y1], _, [v0, v1], _ =>
        have g0 := hf 0 _ rfl
        have g1 := hf 1 _ rfl
        simp [cellsU8, cellsStr] at g0 g1
        obtain ⟨z0, e0, q0, w0⟩ := DataW.trod_int Tryd.underlying5 g0
        obtain ⟨z1, e1, q1, _⟩ := DataW.trod_string Tryd.underlying9 g1
        cases e0
        cases e1
        have c0 := hcell 0 (by omega)
        have c1 := hcell 1 (by omega)
        rw [Go.Deep.add_add] at c0 c1
        simp only [Prod.mk.injEq] at hxy
        have hw : 0 ≤ z0 ∧ z0 ≤ 255 := bounds_u8 w0
        refine ⟨⟨z0, z1.data.toList⟩, hw, by simpa using c0, by simpa using c1, ?_⟩
        rw [hxy.1, q0, q1]
        simp [Rows.uptoBulk, Rows.uptoBulkAll]
        omega
    have : Inhabited Mk := ⟨⟨0, []⟩⟩
    obtain ⟨f, hf⟩ := Go.Deep.choose_lt each
    have hlen : ((List.range len).map f).length = len := by simp
    refine ⟨_, (List.range len).map f, hcs, .inr ⟨a, cap, by rw [hlen], by rw [hlen]; exact hl, fun j u hj => ?_⟩, ?_, ?_⟩
    · have hj' : j < len * 2 := by
        have := (List.getElem?_eq_some_iff.1 hj).1
        rw [mkcells_length, hlen] at this
        exact this
      obtain ⟨h0, h1⟩ := mkcells_at ((List.range len).map f) (j / 2) (by rw [hlen]; omega)
      obtain ⟨_, g0, g1, _⟩ := hf (j / 2) (by omega)
      simp only [List.getElem_map, List.getElem_range] at h0 h1
      rcases (by omega : j = 2 * (j / 2) ∨ j = 2 * (j / 2) + 1) with e | e
      · rw [e, h0] at hj
        rw [e, Nat.mul_comm, g0, hj]
      · rw [e, h1] at hj
        rw [e, Nat.mul_comm, g1, hj]
    · rw [mb_range, Rows.uptoBulk]
      have := bulk_sum D (fun i => (f i).tx.length + 1) len fun i hi => (hf i hi).2.2.2
      omega
    · intro c hc
      simp only [List.mem_map, List.mem_range] at hc
      obtain ⟨i, hi, rfl⟩ := hc
      exact (hf i hi).1
set_option maxRecDepth 4000 in
/-- a hunk's cells -/
theorem open_hkc {H : Type} {enc : TypeId × Value → H} {W : World} {fuel : Nat} {cs : List Value} {d : DataW H} {p : List MemPlace}
    (h : DataW.trod enc Tryd.prog W 0 (fun _ => true) true fuel 44 cs = some (d, p)) :
    ∃ (x : Hk) (y : Value), cs = hkC x y ∧ HMk W y x.ls ∧ mb x.ls + 1 ≤ Rows.uptoBulk d ∧ (w64 x.A ∧ w64 x.AN ∧ w64 x.B ∧ w64 x.BN) ∧ ∀ m ∈ x.ls, 0 ≤ m.sg ∧ m.sg ≤ 255 := by
  obtain ⟨xs, k, hk, hxy, hlen, hxl, hf⟩ := DataW.trod_struct Tryd.underlying44 h
  rw [cellsHk] at hlen
  match xs, hxl, cs, hlen with
  | [y0, y1, y2, y3, y4], _, [v0, v1, v2, v3, v4], _ =>
    have g0 := hf 0 _ rfl
    have g1 := hf 1 _ rfl
    have g2 := hf 2 _ rfl
    have g3 := hf 3 _ rfl
    have g4 := hf 4 _ rfl
    simp [cellsInt, cellsMks] at g0 g1 g2 g3 g4
    obtain ⟨z0, e0, q0, w0⟩ := DataW.trod_int Tryd.underlying3 g0
    obtain ⟨z1, e1, q1, w1⟩ := DataW.trod_int Tryd.underlying3 g1
    obtain ⟨z2, e2, q2, w2⟩ := DataW.trod_int Tryd.underlying3 g2
    obtain ⟨z3, e3, q3, w3⟩ := DataW.trod_int Tryd.underlying3 g3
    obtain ⟨y4d, y4p⟩ := y4
    obtain ⟨v, l, e4, hm, hb, hs⟩ := open_mks g4
    cases e0
    cases e1
    cases e2
    cases e3
    cases e4
    simp only [Prod.mk.injEq] at hxy
    refine ⟨⟨z0, z1, z2, z3, l⟩, v4, rfl, hm, ?_, ⟨w64_of w0, w64_of w1, w64_of w2, w64_of w3⟩, hs⟩
    rw [hxy.1, q0, q1, q2, q3]
    simp [Rows.uptoBulk, Rows.uptoBulkAll]
    omega
theorem hkC_at (x : Hk) (y : Value) : hkC x y = [.int .i64 x.A, .int .i64 x.AN, .int .i64 x.B, .int .i64 x.BN, y] := rfl

set_option maxRecDepth 10000 in
/-- the hunks that an argument holds -/
theorem open_hks {H : Type} {enc : TypeId × Value → H} {W : World} {fuel : Nat} {ao : Option Addr} {len cap : Nat} {d : DataW H} {p : List MemPlace}
    (h : DataW.trod enc Tryd.prog W 0 (fun _ => true) true fuel 22 [.slice ao len cap] = some (d, p)) :
    ∃ l : List (Hk × Value), HHp W (.slice ao len cap) l ∧ hbk (l.map (·.1)) ≤ Rows.uptoBulk d ∧ ∀ x ∈ l, (w64 x.1.A ∧ w64 x.1.AN ∧ w64 x.1.B ∧ w64 x.1.BN) ∧ ∀ m ∈ x.1.ls, 0 ≤ m.sg ∧ m.sg ≤ 255 := by
  rcases Go.Deep.open_slice Tryd.underlying22 h with ⟨hcs, hx⟩ | ⟨a, l, c, m, n, D, Pl, hcs, _, hl, hm, hmm, hx, hel⟩
  · simp at hcs
    obtain ⟨rfl, rfl, rfl⟩ := hcs
    exact ⟨[], ⟨.inl ⟨rfl, rfl, rfl⟩, by simp⟩, by simp [hbk], by simp⟩
  · simp at hcs
    obtain ⟨rfl, rfl, rfl⟩ := hcs
    simp only [Prod.mk.injEq] at hx
    obtain ⟨rfl, _⟩ := hx
    have hlm : len ≤ m := by rw [hmm]; split <;> omega
    have each : ∀ i, i < len → ∃ c : Hk × Value, (∀ j, j < 5 → W.cell? (a.add (i * 5 + j)) = (hkC c.1 c.2)[j]?) ∧ HMk W c.2 c.1.ls ∧ mb c.1.ls + 1 ≤ Rows.uptoBulk (D i) ∧ (w64 c.1.A ∧ w64 c.1.AN ∧ w64 c.1.B ∧ w64 c.1.BN) ∧ ∀ m ∈ c.1.ls, 0 ≤ m.sg ∧ m.sg ≤ 255 := by
      intro i hi
      obtain ⟨cs', h1, h2⟩ := hel i (by omega)
      rw [cellsHk] at h1
      obtain ⟨_, hlen, hcell⟩ := World.cells?_some h1
      obtain ⟨x, y, rfl, hm, hb, hw, hs⟩ := open_hkc h2
      refine ⟨(x, y), fun j hj => ?_, hm, hb, hw, hs⟩
      have := hcell j (by simpa [hkC] using hj)
      rw [Go.Deep.add_add] at this
      rw [this]
    have : Inhabited (Hk × Value) := ⟨(⟨0, 0, 0, 0, []⟩, .slice none 0 0)⟩
    obtain ⟨f, hf⟩ := Go.Deep.choose_lt each
    have hlen : ((List.range len).map f).length = len := by simp
    refine ⟨(List.range len).map f, ⟨.inr ⟨a, cap, by rw [hlen], by rw [hlen]; exact hl, fun j u hj => ?_⟩, ?_⟩, ?_, ?_⟩
    · have hj' : j < len * 5 := by
        have := (List.getElem?_eq_some_iff.1 hj).1
        rw [hkcells_length, hlen] at this
        exact this
      obtain ⟨h0, h1, h2, h3, h4⟩ := hkcells_at ((List.range len).map f) (j / 5) (by rw [hlen]; omega)
      have hfj := (hf (j / 5) (by omega)).1
      simp only [List.getElem_map, List.getElem_range] at h0 h1 h2 h3 h4
      rcases (by omega : j = 5 * (j / 5) ∨ j = 5 * (j / 5) + 1 ∨ j = 5 * (j / 5) + 2 ∨ j = 5 * (j / 5) + 3 ∨ j = 5 * (j / 5) + 4) with e | e | e | e | e
      · rw [e, h0] at hj
        have := hfj 0 (by omega)
        rw [e, Nat.mul_comm]
        rw [Nat.add_zero] at this
        rw [this, ← hj]
        rfl
      · rw [e, h1] at hj
        rw [e, Nat.mul_comm, hfj 1 (by omega), ← hj]
        rfl
      · rw [e, h2] at hj
        rw [e, Nat.mul_comm, hfj 2 (by omega), ← hj]
        rfl
      · rw [e, h3] at hj
        rw [e, Nat.mul_comm, hfj 3 (by omega), ← hj]
        rfl
      · rw [e, h4] at hj
        rw [e, Nat.mul_comm, hfj 4 (by omega), ← hj]
        rfl
    · intro x hx
      simp only [List.mem_map, List.mem_range] at hx
      obtain ⟨i, hi, rfl⟩ := hx
      exact (hf i hi).2.1
    · rw [List.map_map]
      have e := hb_range (fun i => (f i).1) len
      have h2 := bulk_sum D (fun i => mb (f i).1.ls + 1) len fun i hi => (hf i hi).2.2.1
      rw [Rows.uptoBulk]
      show hbk ((List.range len).map fun i => (f i).1) ≤ _
      omega
    · intro x hx
      simp only [List.mem_map, List.mem_range] at hx
      obtain ⟨i, hi, rfl⟩ := hx
      exact (hf i hi).2.2.2
end Go.Proofs.YtgcccpmcbjfaaaaDoor
