/-
  Texts that belong together, joined: HuOne, EdRChk.
-/
import Derived.Test.YthckcdpgjdbgcaaPartA4
import Derived.Test.YthckcdpgjdbgcaaPartA1

/- The reference's one of layer 11, walked. -/
namespace Go.Proofs.Ythckcdpgjdbgcaa
open Go.RowKit

/-- a change in a box -/
def chO (c : Ch) : Obj := .cells #[.int .i64 c.A, .int .i64 c.AN, .int .i64 c.B, .int .i64 c.BN] 35
def Cx (u : World) (b : Nat) (c : Ch) : Prop := u.heap[b]? = some (chO c)
section
variable {u u' : World} {b : Nat} {c : Ch}
theorem Cx.cells (q : Cx u b c) : u.cell? ⟨b, 0, none⟩ = some (.int .i64 c.A) ∧ u.cell? ⟨b, 1, none⟩ = some (.int .i64 c.AN) ∧ u.cell? ⟨b, 2, none⟩ = some (.int .i64 c.B) ∧ u.cell? ⟨b, 3, none⟩ = some (.int .i64 c.BN) := by
  unfold Cx chO at q
  refine ⟨?_, ?_, ?_, ?_⟩ <;> rw [Lib.cell_of_heap q] <;> rfl
theorem Cx.lt (q : Cx u b c) : b < u.heap.size := (Array.getElem?_eq_some_iff.1 q).1
theorem Cx.low (q : Cx u b c) (hg : Below u.heap.size u u') : Cx u' b c := (hg.block b q.lt).trans q
theorem Cx.new (w : World) (c : Ch) : Cx (w.alloc (chO c)) w.heap.size c := _root_.Go.heap_alloc_new w _
end

theorem exec_ixC {u : World} {b off n c i : Nat} (hi : i < n) {op : Oper} (x y : Operand) (ho : op.op = .indexAddr 22 x y) {ev : Operand → Value} (hx : ev x = .slice (some ⟨b, off, none⟩) n c) (hy : ev y = .int .i64 (i : Int)) :
    (execOp ev op).run Try.prog u = .ok (.value (.pointer (some ⟨b, off + i * 4, none⟩))) u := by
  have i1 : 0 ≤ (i : Int) := by omega
  have i2 : (i : Int) < (n : Int) := by omega
  simp only [execOp, ho, hx, hy]
  go_simp
theorem exec_ixT {u : World} {b off n c i : Nat} (hi : i < n) {op : Oper} (x y : Operand) (ho : op.op = .indexAddr 23 x y) {ev : Operand → Value} (hx : ev x = .slice (some ⟨b, off, none⟩) n c) (hy : ev y = .int .i64 (i : Int)) :
    (execOp ev op).run Try.prog u = .ok (.value (.pointer (some ⟨b, off + i, none⟩))) u := by
  have i1 : 0 ≤ (i : Int) := by omega
  have i2 : (i : Int) < (n : Int) := by omega
  simp only [execOp, ho, hx, hy]
  go_simp
theorem load_tx {u : World} {a : Addr} {s : ByteArray} (h : u.cell? a = some (.string s)) {op : Oper} (x : Operand) (ho : op.op = .load 9 x) {ev : Operand → Value} (hx : ev x = .pointer (some a)) :
    (execOp ev op).run Try.prog u = .ok (.value (.string s)) u := by
  simp only [execOp, ho, hx]
  go_simp
/-- the cells of a change in a row -/
def ChAt (u : World) (b o : Nat) (x : Ch) : Prop := u.cell? ⟨b, o, none⟩ = some (.int .i64 x.A) ∧ u.cell? ⟨b, o + 1, none⟩ = some (.int .i64 x.AN) ∧ u.cell? ⟨b, o + 2, none⟩ = some (.int .i64 x.B) ∧ u.cell? ⟨b, o + 3, none⟩ = some (.int .i64 x.BN)
theorem hcell_keep {u u' : World} (hB : Low u u') {q : Addr} {z : Value} (hz : u.cell? q = some z) : u'.cell? q = some z := (World.cell?_of_block (w := u) (Below.block hB _ (World.block_lt_of_cell? _ _ hz))).trans hz
theorem ChAt.low {u u' : World} {b o : Nat} {x : Ch} (h : ChAt u b o x) (hB : Low u u') : ChAt u' b o x := ⟨hcell_keep hB h.1, hcell_keep hB h.2.1, hcell_keep hB h.2.2.1, hcell_keep hB h.2.2.2⟩
theorem load_chR {u : World} {b o : Nat} {h : Ch} (q : ChAt u b o h) {op : Oper} (x : Operand) (ho : op.op = .load 35 x) {ev : Operand → Value} (hx : ev x = .pointer (some ⟨b, o, none⟩)) :
    (execOp ev op).run Try.prog u = .ok (.value (chV h)) u := by
  obtain ⟨d0, d1, d2, d3⟩ := q
  unfold chV
  simp only [execOp, ho, hx]
  go_simp
theorem exec_dec {u : World} {n : Nat} (hn : n ≤ 4611686018427387904) {op : Oper} (x y : Operand) (ho : op.op = .binOp .sub 3 x y 3) {ev : Operand → Value} (hx : ev x = .int .i64 ((n + 1 : Nat) : Int)) (hy : ev y = .int .i64 1) :
    (execOp ev op).run Try.prog u = .ok (.value (.int .i64 (n : Int))) u := by
  have e : ((n + 1 : Nat) : Int) - 1 = (n : Int) := by omega
  have e3 : IntKind.i64.wrap (n : Int) = (n : Int) := wrap_s (by omega) (by omega)
  have e4 : wrap64 (n : Int) = (n : Int) := by unfold wrap64; omega
  simp only [execOp, ho, hx, hy]
  go_simp
theorem exec_storeCh {u : World} {B : Nat} {c0 c : Ch} (q : Cx u B c0) : ∃ u', Cx u' B c ∧ u.grownBy u' (some B) ∧ ∀ {op : Oper} (x y : Operand) (_ : op.op = .store 35 x y) {ev : Operand → Value} (_ : ev x = .pointer (some ⟨B, 0, none⟩)) (_ : ev y = chV c), (execOp ev op).run Try.prog u = .ok .skip u' := by
  obtain ⟨d0, d1, d2, d3⟩ := q.cells
  have f : ∀ j, u.frozen? ⟨B, j, none⟩ = false := fun j => Lib.frozen_of_heap q j
  have f0 := f 0
  have f1 := f 1
  have f2 := f 2
  have f3 := f 3
  refine ⟨(((u.setCell ⟨B, 0, none⟩ (.int .i64 c.A)).setCell ⟨B, 1, none⟩ (.int .i64 c.AN)).setCell ⟨B, 2, none⟩ (.int .i64 c.B)).setCell ⟨B, 3, none⟩ (.int .i64 c.BN), ?_, ?_, ?_⟩
  · have s1 := heap_setCell_same u B 0 _ _ (.int .i64 c.A) q
    have s2 := heap_setCell_same _ B 1 _ _ (.int .i64 c.AN) s1
    have s3 := heap_setCell_same _ B 2 _ _ (.int .i64 c.B) s2
    exact heap_setCell_same _ B 3 _ _ (.int .i64 c.BN) s3
  · exact (((grown_set u B 0 _).trans (grown_set _ B 1 _)).trans (grown_set _ B 2 _)).trans (grown_set _ B 3 _)
  · intro op x y ho ev hx hy
    unfold chV at hy
    simp only [execOp, ho, hx, hy]
    go_simp
theorem Cx.keep {u u' : World} {b : Nat} {c : Ch} (q : Cx u b c) {g : Option Nat} (hg : u.grownBy u' g) (hr : some b ≠ g) : Cx u' b c := (hg.block b q.lt hr).trans q

theorem cut_step {t : List (List UInt8)} {p : Nat} {hi : Int} (h1 : (p : Int) < hi) (h2 : hi ≤ t.length) {s : List UInt8} (hs : t[p]'(by omega) = s) : cut t p (hi - p) = s :: cut t ((p + 1 : Nat) : Int) (hi - ((p + 1 : Nat) : Int)) := by
  simp only [cut, Int.toNat_natCast]
  rw [List.drop_eq_getElem_cons (by omega : p < t.length), hs, show (hi - (p : Int)).toNat = (hi - ((p + 1 : Nat) : Int)).toNat + 1 by omega, List.take_succ_cons]
theorem mks_cons (s : Int) (t : List UInt8) (x : List (List UInt8)) : mks s (t :: x) = ⟨s, t⟩ :: mks s x := rfl

set_option maxRecDepth 10000 in
set_option maxHeartbeats 16000000 in
theorem rone_f (g rest : List Ch) (f : Ch) (a b : List (List UInt8)) (ctx : Int) (vg va vb : Value) (w : World) (hg : HCh w vg (f :: g)) (ha : HS w va a) (hb : HS w vb b) (hal : a.length ≤ 1099511627776) (hbl : b.length ≤ 1099511627776) (hgl : g.length ≤ 1099511627776) (hc : 0 ≤ ctx ∧ ctx ≤ 100) (hR : Right true (f.A - min ctx f.A) (f.B - min ctx f.A) a.length b.length (f :: g ++ rest))
    (hfb : 0 ≤ f.B - min ctx f.A) (hnl : ∀ c ∈ f :: g, 0 ≤ c.A ∧ c.A ≤ 2147483647 ∧ 0 ≤ c.AN ∧ c.AN ≤ 2147483647) (R : Hk) (HR : Hid (oneH a b ctx (f :: g) = R)) (hRl : R.ls.length ≤ 549755813888) : Calls Try.prog 28 #[vg, va, vb, .int .i64 ctx] w fun e w' => ∃ v', e = .returned (hkV R v') ∧ w'.ownsRow w.heap.size 46 2 v' R.ls.length (mkcells R.ls) ∧ Below w.heap.size w w' := by
  obtain ⟨go, gc, rfl⟩ := Holds.form hg
  obtain ⟨ao, ac, rfl⟩ := Holds.form ha
  obtain ⟨bo, bc, rfl⟩ := Holds.form hb
  obtain ⟨gb, gf, rfl, _, hgc⟩ := HCh.at hg (by simp)
  obtain ⟨la, hla⟩ : ∃ la, (f :: g)[g.length]'(by simp) = la := ⟨_, rfl⟩
  have p0 := hgc 0 (by simp)
  have p1 := hgc g.length (by simp)
  rw [hla] at p1
  rw [List.getElem_cons_zero] at p0
  clear hgc
  have HGL : Hid ((f :: g).length = g.length + 1) := rfl
  obtain ⟨N, hN⟩ : ∃ N, g.length = N := ⟨_, rfl⟩
  rw [hN] at p1 hgl
  rw [List.length_cons, hN] at hg ⊢
  have hz0 := Hx.new w ⟨0, 0, 0, 0, []⟩ (.slice none 0 0)
  have hB0 : Below w.heap.size w (w.alloc (hkO ⟨0, 0, 0, 0, []⟩ (.slice none 0 0))) := (Below.refl _ w).alloc (Nat.le_refl _) _
  have r0 : ChAt (w.alloc (hkO ⟨0, 0, 0, 0, []⟩ (.slice none 0 0))) gb (gf + 0 * 4) f := ChAt.low p0 hB0
  have r1 : ChAt (w.alloc (hkO ⟨0, 0, 0, 0, []⟩ (.slice none 0 0))) gb (gf + N * 4) la := ChAt.low p1 hB0
  have hW0 : w.alloc (Obj.cells #[Value.int IntKind.i64 0, Value.int IntKind.i64 0, Value.int IntKind.i64 0, Value.int IntKind.i64 0, .slice none 0 0] 39) = w.alloc (hkO ⟨0, 0, 0, 0, []⟩ (.slice none 0 0)) := rfl
  clear p0 p1
  generalize w.alloc (hkO ⟨0, 0, 0, 0, []⟩ (.slice none 0 0)) = W at *
  go_enter Try.func28, Try.ntmps28
  go_upto_region 1 with fail
  clear hW0
  go_cut [9, 10] from 17 to 25 (fun x y wz => ∃ B9 B10, x = .pointer (some ⟨B9, 0, none⟩) ∧ y = .pointer (some ⟨B10, 0, none⟩) ∧ Cx wz B9 f ∧ Cx wz B10 la ∧ Below W.heap.size W wz)
  case first =>
    refine wp_region_noPanic ?_
    refine wp_region_held_drew (S := fun u => Low W u) (by kernel_rfl) (Below.dN (Below.refl _ W) 1) (fun hHeld => ?_)
    refine go_take 0 17 _ (.slice (some ⟨gb, gf, none⟩) (N + 1) gc) rfl (by kernel_rfl) (by kernel_rfl) (by kernel_rfl) (by kernel_rfl) (fun _ _ _ h => h) (Or.inl ⟨by kernel_rfl, fun u hu => by kernel_rfl⟩) hHeld ?_
    simp only [Act.put, List.setIfInBounds_toArray, List.set_cons_zero, List.set_cons_succ]
    refine go_take 1 18 _ (.pointer (some ⟨gb, gf + 0 * 4, none⟩)) rfl (by kernel_rfl) (by kernel_rfl) (by kernel_rfl) (by kernel_rfl) (fun _ _ _ h => h) (Or.inl ⟨by kernel_rfl, fun u hu => exec_ixC (c := gc) (i := 0) (Nat.succ_pos N) (.tmp 17) (.const (.int .i64 0)) (by kernel_rfl) (by kernel_rfl) (by kernel_rfl)⟩) hHeld ?_
    simp only [Act.put, List.setIfInBounds_toArray, List.set_cons_zero, List.set_cons_succ]
    refine go_take 2 19 _ (chV f) rfl (by kernel_rfl) (by kernel_rfl) (by kernel_rfl) (by kernel_rfl) (fun _ _ _ h => h) (Or.inl ⟨by kernel_rfl, fun u hu => load_chR (ChAt.low r0 hu) (.tmp 18) (by kernel_rfl) (by kernel_rfl)⟩) hHeld ?_
    simp only [Act.put, List.setIfInBounds_toArray, List.set_cons_zero, List.set_cons_succ]
    refine go_take 3 20 _ (.slice (some ⟨gb, gf, none⟩) (N + 1) gc) rfl (by kernel_rfl) (by kernel_rfl) (by kernel_rfl) (by kernel_rfl) (fun _ _ _ h => h) (Or.inl ⟨by kernel_rfl, fun u hu => by kernel_rfl⟩) hHeld ?_
    simp only [Act.put, List.setIfInBounds_toArray, List.set_cons_zero, List.set_cons_succ]
    refine go_take 4 21 _ (.slice (some ⟨gb, gf, none⟩) (N + 1) gc) rfl (by kernel_rfl) (by kernel_rfl) (by kernel_rfl) (by kernel_rfl) (fun _ _ _ h => h) (Or.inl ⟨by kernel_rfl, fun u hu => by kernel_rfl⟩) hHeld ?_
    simp only [Act.put, List.setIfInBounds_toArray, List.set_cons_zero, List.set_cons_succ]
    refine go_take 5 22 _ (.int .i64 ((N + 1 : Nat) : Int)) rfl (by kernel_rfl) (by kernel_rfl) (by kernel_rfl) (by kernel_rfl) (fun _ _ _ h => h) (Or.inl ⟨by kernel_rfl, fun u hu => by kernel_rfl⟩) hHeld ?_
    simp only [Act.put, List.setIfInBounds_toArray, List.set_cons_zero, List.set_cons_succ]
    refine go_take 6 23 _ (.int .i64 (N : Int)) rfl (by kernel_rfl) (by kernel_rfl) (by kernel_rfl) (by kernel_rfl) (fun _ _ _ h => h) (Or.inl ⟨by kernel_rfl, fun u hu => exec_dec (by omega) (.tmp 22) (.const (.int .i64 1)) (by kernel_rfl) (by kernel_rfl) (by kernel_rfl)⟩) hHeld ?_
    simp only [Act.put, List.setIfInBounds_toArray, List.set_cons_zero, List.set_cons_succ]
    refine go_take 7 24 _ (.pointer (some ⟨gb, gf + N * 4, none⟩)) rfl (by kernel_rfl) (by kernel_rfl) (by kernel_rfl) (by kernel_rfl) (fun _ _ _ h => h) (Or.inl ⟨by kernel_rfl, fun u hu => exec_ixC (c := gc) (i := N) (Nat.lt_succ_self N) (.tmp 20) (.tmp 23) (by kernel_rfl) (by kernel_rfl) (by kernel_rfl)⟩) hHeld ?_
    simp only [Act.put, List.setIfInBounds_toArray, List.set_cons_zero, List.set_cons_succ]
    refine go_take 8 25 _ (chV la) rfl (by kernel_rfl) (by kernel_rfl) (by kernel_rfl) (by kernel_rfl) (fun _ _ _ h => h) (Or.inl ⟨by kernel_rfl, fun u hu => load_chR (ChAt.low r1 hu) (.tmp 24) (by kernel_rfl) (by kernel_rfl)⟩) hHeld ?_
    simp only [Act.put, List.setIfInBounds_toArray, List.set_cons_zero, List.set_cons_succ]
    refine go_two 9 9 _ 10 10 _ rfl (by kernel_rfl) rfl (by kernel_rfl) (by kernel_rfl) (by kernel_rfl) (by kernel_rfl) (.pointer (some ⟨(W.drewN 1).heap.size, 0, none⟩)) ((W.drewN 1).alloc (chO ⟨0, 0, 0, 0⟩)) (by kernel_rfl) (low_alloc _ hHeld) (.pointer (some ⟨(W.drewN 1).heap.size, 0, none⟩)) ((W.drewN 1).alloc (chO ⟨0, 0, 0, 0⟩)) (by kernel_rfl) (low_alloc _ hHeld) ?_ ?_
    · simp only [Act.put, List.setIfInBounds_toArray, List.set_cons_zero, List.set_cons_succ]
      refine go_val 10 10 _ rfl (by kernel_rfl) (by kernel_rfl) (by kernel_rfl) (.pointer (some ⟨((W.drewN 1).alloc (chO ⟨0, 0, 0, 0⟩)).heap.size, 0, none⟩)) (((W.drewN 1).alloc (chO ⟨0, 0, 0, 0⟩)).alloc (chO ⟨0, 0, 0, 0⟩)) (by kernel_rfl) (low_alloc _ (low_alloc _ hHeld)) ?_
      simp only [Act.put, List.setIfInBounds_toArray, List.set_cons_zero, List.set_cons_succ]
      have hs0 : ((W.drewN 1).alloc (chO ⟨0, 0, 0, 0⟩)).heap.size = W.heap.size + 1 := by simp
      have hc9 : Cx (((W.drewN 1).alloc (chO ⟨0, 0, 0, 0⟩)).alloc (chO ⟨0, 0, 0, 0⟩)) (W.drewN 1).heap.size ⟨0, 0, 0, 0⟩ := (Cx.new (W.drewN 1) ⟨0, 0, 0, 0⟩).low ((Below.refl _ ((W.drewN 1).alloc (chO ⟨0, 0, 0, 0⟩))).alloc (Nat.le_refl _) _)
      have hc10 : Cx (((W.drewN 1).alloc (chO ⟨0, 0, 0, 0⟩)).alloc (chO ⟨0, 0, 0, 0⟩)) ((W.drewN 1).alloc (chO ⟨0, 0, 0, 0⟩)).heap.size ⟨0, 0, 0, 0⟩ := Cx.new ((W.drewN 1).alloc (chO ⟨0, 0, 0, 0⟩)) ⟨0, 0, 0, 0⟩
      have hLB : Low W (((W.drewN 1).alloc (chO ⟨0, 0, 0, 0⟩)).alloc (chO ⟨0, 0, 0, 0⟩)) := low_alloc _ (low_alloc _ hHeld)
      have hge : W.heap.size ≤ (W.drewN 1).heap.size ∧ W.heap.size ≤ ((W.drewN 1).alloc (chO ⟨0, 0, 0, 0⟩)).heap.size ∧ (W.drewN 1).heap.size ≠ ((W.drewN 1).alloc (chO ⟨0, 0, 0, 0⟩)).heap.size := (by refine ⟨?_, ?_, ?_⟩ <;> simp)
      obtain ⟨u1, hc9', hg1, he1⟩ := exec_storeCh (c := f) hc9
      have hc10' := hc10.keep hg1 (fun e => hge.2.2 (Option.some.inj e).symm)
      have hL1 : Low W u1 := Below.grown hLB hg1 (Below.size hLB) (fun j hj => by cases hj; exact hge.1)
      obtain ⟨u2, hc10'', hg2, he2⟩ := exec_storeCh (c := la) hc10'
      have hc9'' := hc9'.keep hg2 (fun e => hge.2.2 (Option.some.inj e))
      have hL2 : Low W u2 := Below.grown hL1 hg2 (Below.size hL1) (fun j hj => by cases hj; exact hge.2.1)
      refine go_skip 11 _ rfl (by kernel_rfl) (by kernel_rfl) (by kernel_rfl) u1 (he1 (.tmp 9) (.tmp 19) (by kernel_rfl) (by kernel_rfl) (by kernel_rfl)) hL1 ?_
      refine go_skip 12 _ rfl (by kernel_rfl) (by kernel_rfl) (by kernel_rfl) u2 (he2 (.tmp 10) (.tmp 25) (by kernel_rfl) (by kernel_rfl) (by kernel_rfl)) hL2 ?_
      refine wpAnyH_done (by kernel_rfl) ?_ _
      refine NoPanic.normal ?_
      go_wp2_with fail
      go_meet
      case rel => exact ⟨_, _, rfl, rfl, by first | exact hc9'' | (rw [← hs0]; exact hc9''), by first | exact hc10'' | (rw [← hs0]; exact hc10''), hL2⟩
    · simp only [Act.put, List.setIfInBounds_toArray, List.set_cons_zero, List.set_cons_succ]
      refine go_val 9 9 _ rfl (by kernel_rfl) (by kernel_rfl) (by kernel_rfl) (.pointer (some ⟨((W.drewN 1).alloc (chO ⟨0, 0, 0, 0⟩)).heap.size, 0, none⟩)) (((W.drewN 1).alloc (chO ⟨0, 0, 0, 0⟩)).alloc (chO ⟨0, 0, 0, 0⟩)) (by kernel_rfl) (low_alloc _ (low_alloc _ hHeld)) ?_
      simp only [Act.put, List.setIfInBounds_toArray, List.set_cons_zero, List.set_cons_succ]
      have hs0 : ((W.drewN 1).alloc (chO ⟨0, 0, 0, 0⟩)).heap.size = W.heap.size + 1 := by simp
      have hc9 : Cx (((W.drewN 1).alloc (chO ⟨0, 0, 0, 0⟩)).alloc (chO ⟨0, 0, 0, 0⟩)) ((W.drewN 1).alloc (chO ⟨0, 0, 0, 0⟩)).heap.size ⟨0, 0, 0, 0⟩ := Cx.new ((W.drewN 1).alloc (chO ⟨0, 0, 0, 0⟩)) ⟨0, 0, 0, 0⟩
      have hc10 : Cx (((W.drewN 1).alloc (chO ⟨0, 0, 0, 0⟩)).alloc (chO ⟨0, 0, 0, 0⟩)) (W.drewN 1).heap.size ⟨0, 0, 0, 0⟩ := (Cx.new (W.drewN 1) ⟨0, 0, 0, 0⟩).low ((Below.refl _ ((W.drewN 1).alloc (chO ⟨0, 0, 0, 0⟩))).alloc (Nat.le_refl _) _)
      have hLB : Low W (((W.drewN 1).alloc (chO ⟨0, 0, 0, 0⟩)).alloc (chO ⟨0, 0, 0, 0⟩)) := low_alloc _ (low_alloc _ hHeld)
      have hge : W.heap.size ≤ ((W.drewN 1).alloc (chO ⟨0, 0, 0, 0⟩)).heap.size ∧ W.heap.size ≤ (W.drewN 1).heap.size ∧ ((W.drewN 1).alloc (chO ⟨0, 0, 0, 0⟩)).heap.size ≠ (W.drewN 1).heap.size := (by refine ⟨?_, ?_, ?_⟩ <;> simp)
      obtain ⟨u1, hc9', hg1, he1⟩ := exec_storeCh (c := f) hc9
      have hc10' := hc10.keep hg1 (fun e => hge.2.2 (Option.some.inj e).symm)
      have hL1 : Low W u1 := Below.grown hLB hg1 (Below.size hLB) (fun j hj => by cases hj; exact hge.1)
      obtain ⟨u2, hc10'', hg2, he2⟩ := exec_storeCh (c := la) hc10'
      have hc9'' := hc9'.keep hg2 (fun e => hge.2.2 (Option.some.inj e))
      have hL2 : Low W u2 := Below.grown hL1 hg2 (Below.size hL1) (fun j hj => by cases hj; exact hge.2.1)
      refine go_skip 11 _ rfl (by kernel_rfl) (by kernel_rfl) (by kernel_rfl) u1 (he1 (.tmp 9) (.tmp 19) (by kernel_rfl) (by kernel_rfl) (by kernel_rfl)) hL1 ?_
      refine go_skip 12 _ rfl (by kernel_rfl) (by kernel_rfl) (by kernel_rfl) u2 (he2 (.tmp 10) (.tmp 25) (by kernel_rfl) (by kernel_rfl) (by kernel_rfl)) hL2 ?_
      refine wpAnyH_done (by kernel_rfl) ?_ _
      refine NoPanic.normal ?_
      go_wp2_with fail
      go_meet
      case rel => exact ⟨_, _, rfl, rfl, by first | exact hc9'' | (rw [← hs0]; exact hc9''), by first | exact hc10'' | (rw [← hs0]; exact hc10''), hL2⟩
  case rest =>
    obtain ⟨B9, B10, rfl, rfl, h9, h10, hBz⟩ := hcut
    generalize wc = w1 at *
    have hnf := hnl f (by simp)
    have hnla := hnl la (by rw [← hla]; exact List.getElem_mem _)
    obtain ⟨m, hm⟩ : ∃ m, min ctx f.A = m := ⟨_, rfl⟩
    have hm1 : (if f.A < ctx then f.A else ctx) = m := by rw [← hm]; split <;> omega
    have hmb : 0 ≤ m ∧ m ≤ f.A ∧ m ≤ ctx := by omega
    obtain ⟨E, hE⟩ : ∃ E, min (a.length : Int) (la.A + la.AN + ctx) = E := ⟨_, rfl⟩
    have hE1 : (if la.A + la.AN + ctx < (a.length : Int) then la.A + la.AN + ctx else (a.length : Int)) = E := by rw [← hE]; split <;> omega
    obtain ⟨s0, hs0⟩ : ∃ s0 : Nat, f.A - m = s0 := ⟨(f.A - m).toNat, by omega⟩
    obtain ⟨RL, hRL⟩ : ∃ RL, bodyH a b E s0 (f :: g) = RL := ⟨_, rfl⟩
    have hend : endH a.length ctx (f :: g) = E := (by
      rw [endH_eq _ _ _ _ 0, ← hE]
      congr 2
      have key : ∀ (x : List Ch) (c : Ch) (p : Int), endA p (c :: x) = ((c :: x)[x.length]'(by simp)).A + ((c :: x)[x.length]'(by simp)).AN := by
        intro x
        induction x with
        | nil => intro c p; rfl
        | cons d x ih => intro c p; exact ih d 0
      rw [key g f 0]
      have : ((f :: g)[g.length]'(by simp)) = la := by simpa [hN] using hla
      rw [this])
    have HRR : Hid (R = cntH (f.A - m) (f.B - m) RL) := (by
      show _ = _
      rw [← HR.out]
      show cntH (f.A - min ctx f.A) (f.B - min ctx f.A) (bodyH a b (endH a.length ctx (f :: g)) (f.A - min ctx f.A) (f :: g)) = _
      rw [hm, hend, hs0, hRL])
    have hRLl : RL.length ≤ 549755813888 := by have := hRl; rw [HRR.out] at this; exact this
    have HRL : Hid (bodyH a b E s0 (f :: g) = RL) := hRL
    rw [hm, hs0] at hR
    have HRT : Hid (Right true (s0 : Int) (f.B - m) a.length b.length (f :: g ++ rest)) := hR
    have HFB : Hid (0 ≤ f.B - m) := (by show _ ≤ _; rw [← hm]; exact hfb)
    have HEE : Hid (E ≤ a.length) := (by show _ ≤ _; omega)
    clear hRL hend hR HR hE hm
    have hBw1 : Below w.heap.size w w1 := hB0.trans (hBz.mono hB0.size)
    have HW1 : Hid (w.heap.size + 1 ≤ w1.heap.size) := (by
      have h1 := hz0.lt
      have h2 := hBz.size
      show _ ≤ _
      omega)
    have hz1 := hz0.low hBz
    have hbZ : Below w1.heap.size w1 (w1.alloc (hkO ⟨0, 0, 0, 0, []⟩ (.slice none 0 0))) := (Below.refl _ w1).alloc (Nat.le_refl _) _
    have hI0 : Iv w1 ⟨0, 0, 0, 0, []⟩ (.slice none 0 0) [] (.slice none 0 0) [] (w1.alloc (hkO ⟨0, 0, 0, 0, []⟩ (.slice none 0 0))) :=
      ⟨hbZ, Hx.new w1 _ _, hnil_row _ _ _ _, hnil_row _ _ _ _, fun g e => by cases e⟩
    obtain ⟨x0, x1, x2, x3⟩ := h9.cells
    obtain ⟨y0, y1, y2, y3⟩ := h10.cells
    obtain ⟨t0, t1, t2, t3⟩ := (h9.low hbZ).cells
    have hWz : w1.alloc (Obj.cells #[Value.int IntKind.i64 0, Value.int IntKind.i64 0, Value.int IntKind.i64 0, Value.int IntKind.i64 0, .slice none 0 0] 39) = w1.alloc (hkO ⟨0, 0, 0, 0, []⟩ (.slice none 0 0)) := rfl
    have hs1 : f.A - m = (s0 : Int) := hs0
    have hB9 : Hid (B9 < w1.heap.size) := h9.lt
    clear hs0
    generalize w1.alloc (hkO ⟨0, 0, 0, 0, []⟩ (.slice none 0 0)) = W2 at *
    go_wp2
    go_loopw [14, 15, 16] (fun atv iv _ wr => ∃ (i p : Nat) (q : Int) (fl : Bool) (ov : Value) (x : List Mk), i ≤ N + 1 ∧ atv = .int .i64 (p : Int) ∧ iv = .int .i64 (i : Int) ∧ (∃ oo oc, ov = .slice oo x.length oc) ∧ Iv w1 ⟨0, 0, 0, 0, []⟩ ov x (.slice none 0 0) [] wr ∧ Hid (Right fl (p : Int) q a.length b.length ((f :: g).drop i ++ rest) ∧ 0 ≤ q) ∧ Hid (x ++ bodyH a b E (p : Int) ((f :: g).drop i) = RL)) (fun _ iv _ _ => N + 1 - (intOf iv).toNat)
    case atStart => exact ⟨0, s0, f.B - m, true, _, [], Nat.zero_le _, rfl, by go_num, ⟨_, _, rfl⟩, hI0, ⟨HRT.out, HFB.out⟩, HRL⟩
    case round =>
      obtain ⟨i, p, q, fl, ov, x, hi, rfl, rfl, ⟨oo, oc, rfl⟩, hI, HRi, HI⟩ := hrel
      have HBw : Below w.heap.size w wr := hBw1.trans (hI.low.mono hBw1.size)
      by_cases hlt : i < N + 1
      · have hil : i < (f :: g).length := by rw [List.length_cons, hN]; exact hlt
        obtain ⟨c, hci⟩ : ∃ c, (f :: g)[i] = c := ⟨_, rfl⟩
        have hdr : (f :: g).drop i = c :: (f :: g).drop (i + 1) := by rw [List.drop_eq_getElem_cons hil, hci]
        have hgA : ∀ u : World, Below w.heap.size w u → ChAt u gb (gf + i * 4) c := fun u hu => (by
          obtain ⟨b', off', e, _, hc'⟩ := HCh.at (HCh.keep hg hu (Nat.le_refl _)) (by simp)
          cases e
          have := hc' i hil
          rw [hci] at this
          exact this)
        have hRi := HRi.out
        rw [hdr, List.cons_append] at hRi
        obtain ⟨⟨⟨k1, k2, k3, k4⟩, k5⟩, hq0⟩ := hRi
        have k1' := (numB_iff c).1 k1
        have k6 := k5.le
        have HRn : Hid (Right false (c.A + c.AN) (c.B + c.BN) a.length b.length ((f :: g).drop (i + 1) ++ rest)) := k5
        have HI1 : Hid (x ++ bodyH a b E (p : Int) (c :: (f :: g).drop (i + 1)) = RL) := (by have h := HI.out; rw [hdr] at h; exact h)
        obtain ⟨cA, cAN, cB, cBN⟩ := c
        dsimp only at k1' k2 k3 k4 k5 k6 HRn
        obtain ⟨RS3, hR3⟩ : ∃ r, bodyH a b E (cA + cAN) ((f :: g).drop (i + 1)) = r := ⟨_, rfl⟩
        obtain ⟨RS2, hR2⟩ : ∃ r, mks 43 (cut b cB cBN) ++ RS3 = r := ⟨_, rfl⟩
        obtain ⟨RS1, hR1⟩ : ∃ r, mks 45 (cut a cA cAN) ++ RS2 = r := ⟨_, rfl⟩
        have HR3 : Hid (bodyH a b E (cA + cAN) ((f :: g).drop (i + 1)) = RS3) := hR3
        have HR2 : Hid (mks 43 (cut b cB cBN) ++ RS3 = RS2) := hR2
        have HR1 : Hid (mks 45 (cut a cA cAN) ++ RS2 = RS1) := hR1
        have HI2 : Hid (x ++ mks 32 (cut a (p : Int) (cA - (p : Int))) ++ RS1 = RL) := (by
          have h := HI1.out
          simp only [bodyH] at h
          rw [hR3, hR2, hR1] at h
          show _ = _
          rw [← h, List.append_assoc])
        obtain ⟨kB, hkB⟩ : ∃ kB : Nat, cB = kB := ⟨cB.toNat, by omega⟩
        have HKB : Hid (cB = kB) := hkB
        clear hkB
        have i1 : 0 ≤ (i : Int) := by omega
        have i2 : (i : Int) < (N : Int) + 1 := by omega
        clear HI HI1 HRi hR1 hR2 hR3 k5 hdr hci hil
        go_wp2
        go_loopw [14] (fun zv wr => ∃ (pA : Nat) (ov : Value) (x : List Mk), (pA : Int) ≤ cA ∧ zv = .int .i64 (pA : Int) ∧ (∃ oo oc, ov = .slice oo x.length oc) ∧ Iv w1 ⟨0, 0, 0, 0, []⟩ ov x (.slice none 0 0) [] wr ∧ Hid (x ++ mks 32 (cut a pA (cA - pA)) ++ RS1 = RL)) (fun zv _ => (cA - intOf zv).toNat)
        case atStart => exact ⟨p, _, x, by omega, by rfl, ⟨_, _, rfl⟩, hI, HI2⟩
        case round =>
          obtain ⟨pA, ov, x, pAb, rfl, ⟨oo, oc, rfl⟩, hI, HI⟩ := hrel
          have HBw : Below w.heap.size w wr := hBw1.trans (hI.low.mono hBw1.size)
          obtain ⟨c0, c1, c2, c3⟩ := hgA wr HBw
          dsimp only at c0 c1 c2 c3
          by_cases pAlt : (pA : Int) < cA
          · have pAle : cA ≤ (a.length : Int) := by omega
            have pAlx : pA < a.length := by omega
            have pA0 : (0 : Int) ≤ (pA : Int) := by omega
            go_wp2_with fail
            obtain ⟨tx, htx⟩ : ∃ tx, a[pA]'(pAlx) = tx := ⟨_, rfl⟩
            obtain ⟨sb, sf, hso, _, hsc⟩ := HS.at ha (by have h : pA < a.length := (pAlx); omega)
            subst hso
            have ca := hsc pA (pAlx)
            rw [htx] at ca
            clear hsc
            have HX : Hid (x ++ [⟨32, tx⟩] ++ mks 32 (cut a ((pA + 1 : Nat) : Int) (cA - ((pA + 1 : Nat) : Int))) ++ RS1 = RL) := (by
              have h := HI.out
              rw [cut_step pAlt pAle htx, mks_cons] at h
              show _ = _
              rw [← h]
              simp)
            have hxl : x.length ≤ RL.length := (by have h := congrArg List.length HI.out; simp only [List.length_append] at h; omega)
            clear HI
            have hsz := hI.low.size
            have hID := (hI.drewN 1).alloc (mkO ⟨32, tx⟩)
            have hdr : (wr.drewN 1).heap.size = wr.heap.size := rfl
            have hda : ((wr.drewN 1).alloc (mkO ⟨32, tx⟩)).heap.size = wr.heap.size + 1 := by simp
            have hbl := hI.box.lt
            obtain ⟨v3, u3, hr3, hown3, hg3, hb3⟩ := run_append_w ((wr.drewN 1).alloc (mkO ⟨32, tx⟩)) 37 46 37 (.agg #[.int .u8 0, .string ⟨#[]⟩]) 2 24 Try.underlying37 infoMk rfl (by decide) (by decide) (w1.heap.size + 1) _ _ _ hID.own _ 1 (mkcells [⟨32, tx⟩]) (mk_row (wr.drewN 1) ⟨32, tx⟩) (mkcells_length _) (mkcells_one _) (by omega) (by rw [hda]; omega)
            rw [← mkcells_append] at hown3
            obtain ⟨p3, q3, hv3⟩ := (holds_of hown3).form
            subst hv3
            obtain ⟨hbx3, hI4⟩ := hID.grow (x' := x ++ [⟨32, tx⟩]) hg3 (by rw [List.length_append]; exact hown3) hb3
            have hLD : Below w.heap.size w (wr.drewN 1) := Below.dN HBw 1
            have hLA : Below w.heap.size w ((wr.drewN 1).alloc (mkO ⟨32, tx⟩)) := hLD.alloc hLD.size _
            have hL3 : Below w.heap.size w u3 := hLA.grown hg3 hLA.size (fun j hj => by have := owns_ge hID.own hj; have := HW1.out; omega)
            have hL4 : Below w.heap.size w (u3.setCell ⟨w1.heap.size, 4, none⟩ (.slice p3 (x.length + 1) q3)) := hL3.setCell (by have := HW1.out; show w.heap.size ≤ w1.heap.size; omega) _
            have hbD : (wr.drewN 1).cell? ⟨w1.heap.size, 4, none⟩ = some (.slice oo x.length oc) := hI.box.cells.2.2.2.2
            have hbA : ((wr.drewN 1).alloc (mkO ⟨32, tx⟩)).cell? ⟨w1.heap.size, 4, none⟩ = some (.slice oo x.length oc) := hID.box.cells.2.2.2.2
            clear hown3 hg3 hb3 hID
            refine wp_region_noPanic ?_
            refine wp_region_held_drew (S := fun u => Below w.heap.size w u) (by kernel_rfl) hLD (fun hHeld => ?_)
            refine go_take 0 59 _ (.pointer (some ⟨w1.heap.size, 4, none⟩)) rfl (by kernel_rfl) (by kernel_rfl) (by kernel_rfl) (by kernel_rfl) (fun _ _ _ h => h) (Or.inl ⟨by kernel_rfl, fun u hu => by kernel_rfl⟩) hHeld ?_
            simp only [Act.put, List.setIfInBounds_toArray, List.set_cons_zero, List.set_cons_succ]
            refine go_take 2 61 _ (.slice (some ⟨sb, sf, none⟩) a.length ac) rfl (by kernel_rfl) (by kernel_rfl) (by kernel_rfl) (by kernel_rfl) (fun _ _ _ h => h) (Or.inl ⟨by kernel_rfl, fun u hu => by kernel_rfl⟩) hHeld ?_
            simp only [Act.put, List.setIfInBounds_toArray, List.set_cons_zero, List.set_cons_succ]
            refine go_take 3 62 _ (.int .i64 (pA : Int)) rfl (by kernel_rfl) (by kernel_rfl) (by kernel_rfl) (by kernel_rfl) (fun _ _ _ h => h) (Or.inl ⟨by kernel_rfl, fun u hu => by kernel_rfl⟩) hHeld ?_
            simp only [Act.put, List.setIfInBounds_toArray, List.set_cons_zero, List.set_cons_succ]
            refine go_take 4 63 _ (.pointer (some ⟨sb, sf + pA, none⟩)) rfl (by kernel_rfl) (by kernel_rfl) (by kernel_rfl) (by kernel_rfl) (fun _ _ _ h => h) (Or.inl ⟨by kernel_rfl, fun u hu => exec_ixT (c := ac) (i := pA) (pAlx) (.tmp 61) (.tmp 62) (by kernel_rfl) (by kernel_rfl) (by kernel_rfl)⟩) hHeld ?_
            simp only [Act.put, List.setIfInBounds_toArray, List.set_cons_zero, List.set_cons_succ]
            refine go_take 5 64 _ (.string ⟨tx.toArray⟩) rfl (by kernel_rfl) (by kernel_rfl) (by kernel_rfl) (by kernel_rfl) (fun _ _ _ h => h) (Or.inl ⟨by kernel_rfl, fun u hu => load_tx (hcell_keep hu ca) (.tmp 63) (by kernel_rfl) (by kernel_rfl)⟩) hHeld ?_
            simp only [Act.put, List.setIfInBounds_toArray, List.set_cons_zero, List.set_cons_succ]
            refine go_take 6 65 _ (.agg #[.int .u8 32, .string ⟨tx.toArray⟩]) rfl (by kernel_rfl) (by kernel_rfl) (by kernel_rfl) (by kernel_rfl) (fun _ _ _ h => h) (Or.inl ⟨by kernel_rfl, fun u hu => by kernel_rfl⟩) hHeld ?_
            simp only [Act.put, List.setIfInBounds_toArray, List.set_cons_zero, List.set_cons_succ]
            refine go_two 1 60 _ 7 66 _ rfl (by kernel_rfl) rfl (by kernel_rfl) (by kernel_rfl) (by kernel_rfl) (by kernel_rfl) (.slice oo x.length oc) (wr.drewN 1) (load_mks hbD (.tmp 59) (by kernel_rfl) (by kernel_rfl)) hLD (.slice (some ⟨(wr.drewN 1).heap.size, 0, none⟩) 1 1) ((wr.drewN 1).alloc (mkO ⟨32, tx⟩)) (by kernel_rfl) hLA ?_ ?_
            · simp only [Act.put, List.setIfInBounds_toArray, List.set_cons_zero, List.set_cons_succ]
              refine go_val 7 66 _ rfl (by kernel_rfl) (by kernel_rfl) (by kernel_rfl) (.slice (some ⟨(wr.drewN 1).heap.size, 0, none⟩) 1 1) ((wr.drewN 1).alloc (mkO ⟨32, tx⟩)) (by kernel_rfl) hLA ?_
              simp only [Act.put, List.setIfInBounds_toArray, List.set_cons_zero, List.set_cons_succ]
              refine go_val 8 67 _ rfl (by kernel_rfl) (by kernel_rfl) (by kernel_rfl) (.slice p3 (x.length + 1) q3) u3 (exec_app (.tmp 60) (.tmp 66) (by kernel_rfl) (by kernel_rfl) (by kernel_rfl) hr3) hL3 ?_
              simp only [Act.put, List.setIfInBounds_toArray, List.set_cons_zero, List.set_cons_succ]
              refine go_take 9 68 _ (.pointer (some ⟨w1.heap.size, 4, none⟩)) rfl (by kernel_rfl) (by kernel_rfl) (by kernel_rfl) (by kernel_rfl) (fun _ _ _ h => h) (Or.inl ⟨by kernel_rfl, fun u hu => by kernel_rfl⟩) hL3 ?_
              simp only [Act.put, List.setIfInBounds_toArray, List.set_cons_zero, List.set_cons_succ]
              refine go_skip 10 _ rfl (by kernel_rfl) (by kernel_rfl) (by kernel_rfl) (u3.setCell ⟨w1.heap.size, 4, none⟩ (.slice p3 (x.length + 1) q3)) (exec_storeL (v := .slice p3 (x.length + 1) q3) (o' := p3) (n' := x.length + 1) (c' := q3) (hbx3.frozen 4) hbx3.cells.2.2.2.2 rfl (.tmp 68) (.tmp 67) (by kernel_rfl) (by kernel_rfl) (by kernel_rfl)) hL4 ?_
              refine wpAnyH_done (by kernel_rfl) ?_ _
              refine NoPanic.normal ?_
              go_wp2
              exact ⟨⟨pA + 1, _, x ++ [⟨32, tx⟩], by omega, by go_num, ⟨_, _, by rw [List.length_append]; rfl⟩, hI4, HX⟩, by simp [intOf]; omega⟩
            · simp only [Act.put, List.setIfInBounds_toArray, List.set_cons_zero, List.set_cons_succ]
              refine go_val 1 60 _ rfl (by kernel_rfl) (by kernel_rfl) (by kernel_rfl) (.slice oo x.length oc) ((wr.drewN 1).alloc (mkO ⟨32, tx⟩)) (load_mks hbA (.tmp 59) (by kernel_rfl) (by kernel_rfl)) hLA ?_
              simp only [Act.put, List.setIfInBounds_toArray, List.set_cons_zero, List.set_cons_succ]
              refine go_val 8 67 _ rfl (by kernel_rfl) (by kernel_rfl) (by kernel_rfl) (.slice p3 (x.length + 1) q3) u3 (exec_app (.tmp 60) (.tmp 66) (by kernel_rfl) (by kernel_rfl) (by kernel_rfl) hr3) hL3 ?_
              simp only [Act.put, List.setIfInBounds_toArray, List.set_cons_zero, List.set_cons_succ]
              refine go_take 9 68 _ (.pointer (some ⟨w1.heap.size, 4, none⟩)) rfl (by kernel_rfl) (by kernel_rfl) (by kernel_rfl) (by kernel_rfl) (fun _ _ _ h => h) (Or.inl ⟨by kernel_rfl, fun u hu => by kernel_rfl⟩) hL3 ?_
              simp only [Act.put, List.setIfInBounds_toArray, List.set_cons_zero, List.set_cons_succ]
              refine go_skip 10 _ rfl (by kernel_rfl) (by kernel_rfl) (by kernel_rfl) (u3.setCell ⟨w1.heap.size, 4, none⟩ (.slice p3 (x.length + 1) q3)) (exec_storeL (v := .slice p3 (x.length + 1) q3) (o' := p3) (n' := x.length + 1) (c' := q3) (hbx3.frozen 4) hbx3.cells.2.2.2.2 rfl (.tmp 68) (.tmp 67) (by kernel_rfl) (by kernel_rfl) (by kernel_rfl)) hL4 ?_
              refine wpAnyH_done (by kernel_rfl) ?_ _
              refine NoPanic.normal ?_
              go_wp2
              exact ⟨⟨pA + 1, _, x ++ [⟨32, tx⟩], by omega, by go_num, ⟨_, _, by rw [List.length_append]; rfl⟩, hI4, HX⟩, by simp [intOf]; omega⟩
          · have pAge : decide ((pA : Int) < cA) = false := decide_eq_false pAlt
            have HI3 : Hid (x ++ RS1 = RL) := (by
              have h := HI.out
              rw [show cut a pA (cA - pA) = [] by simp only [cut]; rw [show (cA - (pA : Int)).toNat = 0 by omega, List.take_zero]] at h
              show _ = _
              simpa [mks] using h)
            clear HI
            go_wp2
            go_loopw [14] (fun zv wr => ∃ (pB : Nat) (ov : Value) (x : List Mk), (pB : Int) ≤ (cA + cAN) ∧ zv = .int .i64 (pB : Int) ∧ (∃ oo oc, ov = .slice oo x.length oc) ∧ Iv w1 ⟨0, 0, 0, 0, []⟩ ov x (.slice none 0 0) [] wr ∧ Hid (x ++ mks 45 (cut a pB ((cA + cAN) - pB)) ++ RS2 = RL)) (fun zv _ => ((cA + cAN) - intOf zv).toNat)
            case atStart => exact ⟨pA, _, x, by omega, by rfl, ⟨_, _, rfl⟩, hI, by show _ = _; rw [show (pA : Int) = cA by omega, show cA + cAN - cA = cAN by omega]; have h := HI3.out; rw [← HR1.out] at h; rw [← h]; simp⟩
            case round =>
              obtain ⟨pB, ov, x, pBb, rfl, ⟨oo, oc, rfl⟩, hI, HI⟩ := hrel
              have HBw : Below w.heap.size w wr := hBw1.trans (hI.low.mono hBw1.size)
              obtain ⟨c0, c1, c2, c3⟩ := hgA wr HBw
              dsimp only at c0 c1 c2 c3
              by_cases pBlt : (pB : Int) < (cA + cAN)
              · have pBle : (cA + cAN) ≤ (a.length : Int) := by omega
                have pBlx : pB < a.length := by omega
                have pB0 : (0 : Int) ≤ (pB : Int) := by omega
                go_wp2_with fail
                go_quiet (fail)
                have hI := hI.drewN nq
                have HBw := Below.dN HBw nq
                generalize wr.drewN nq = wr at *
                obtain ⟨c0, c1, c2, c3⟩ := hgA wr HBw
                dsimp only at c0 c1 c2 c3
                go_wp2_with fail
                obtain ⟨tx, htx⟩ : ∃ tx, a[pB]'(pBlx) = tx := ⟨_, rfl⟩
                obtain ⟨sb, sf, hso, _, hsc⟩ := HS.at ha (by have h : pB < a.length := (pBlx); omega)
                subst hso
                have ca := hsc pB (pBlx)
                rw [htx] at ca
                clear hsc
                have HX : Hid (x ++ [⟨45, tx⟩] ++ mks 45 (cut a ((pB + 1 : Nat) : Int) ((cA + cAN) - ((pB + 1 : Nat) : Int))) ++ RS2 = RL) := (by
                  have h := HI.out
                  rw [cut_step pBlt pBle htx, mks_cons] at h
                  show _ = _
                  rw [← h]
                  simp)
                have hxl : x.length ≤ RL.length := (by have h := congrArg List.length HI.out; simp only [List.length_append] at h; omega)
                clear HI
                have hsz := hI.low.size
                have hID := (hI.drewN 1).alloc (mkO ⟨45, tx⟩)
                have hdr : (wr.drewN 1).heap.size = wr.heap.size := rfl
                have hda : ((wr.drewN 1).alloc (mkO ⟨45, tx⟩)).heap.size = wr.heap.size + 1 := by simp
                have hbl := hI.box.lt
                obtain ⟨v3, u3, hr3, hown3, hg3, hb3⟩ := run_append_w ((wr.drewN 1).alloc (mkO ⟨45, tx⟩)) 37 46 37 (.agg #[.int .u8 0, .string ⟨#[]⟩]) 2 24 Try.underlying37 infoMk rfl (by decide) (by decide) (w1.heap.size + 1) _ _ _ hID.own _ 1 (mkcells [⟨45, tx⟩]) (mk_row (wr.drewN 1) ⟨45, tx⟩) (mkcells_length _) (mkcells_one _) (by omega) (by rw [hda]; omega)
                rw [← mkcells_append] at hown3
                obtain ⟨p3, q3, hv3⟩ := (holds_of hown3).form
                subst hv3
                obtain ⟨hbx3, hI4⟩ := hID.grow (x' := x ++ [⟨45, tx⟩]) hg3 (by rw [List.length_append]; exact hown3) hb3
                have hLD : Below w.heap.size w (wr.drewN 1) := Below.dN HBw 1
                have hLA : Below w.heap.size w ((wr.drewN 1).alloc (mkO ⟨45, tx⟩)) := hLD.alloc hLD.size _
                have hL3 : Below w.heap.size w u3 := hLA.grown hg3 hLA.size (fun j hj => by have := owns_ge hID.own hj; have := HW1.out; omega)
                have hL4 : Below w.heap.size w (u3.setCell ⟨w1.heap.size, 4, none⟩ (.slice p3 (x.length + 1) q3)) := hL3.setCell (by have := HW1.out; show w.heap.size ≤ w1.heap.size; omega) _
                have hbD : (wr.drewN 1).cell? ⟨w1.heap.size, 4, none⟩ = some (.slice oo x.length oc) := hI.box.cells.2.2.2.2
                have hbA : ((wr.drewN 1).alloc (mkO ⟨45, tx⟩)).cell? ⟨w1.heap.size, 4, none⟩ = some (.slice oo x.length oc) := hID.box.cells.2.2.2.2
                clear hown3 hg3 hb3 hID
                refine wp_region_noPanic ?_
                refine wp_region_held_drew (S := fun u => Below w.heap.size w u) (by kernel_rfl) hLD (fun hHeld => ?_)
                refine go_take 0 84 _ (.pointer (some ⟨w1.heap.size, 4, none⟩)) rfl (by kernel_rfl) (by kernel_rfl) (by kernel_rfl) (by kernel_rfl) (fun _ _ _ h => h) (Or.inl ⟨by kernel_rfl, fun u hu => by kernel_rfl⟩) hHeld ?_
                simp only [Act.put, List.setIfInBounds_toArray, List.set_cons_zero, List.set_cons_succ]
                refine go_take 2 86 _ (.slice (some ⟨sb, sf, none⟩) a.length ac) rfl (by kernel_rfl) (by kernel_rfl) (by kernel_rfl) (by kernel_rfl) (fun _ _ _ h => h) (Or.inl ⟨by kernel_rfl, fun u hu => by kernel_rfl⟩) hHeld ?_
                simp only [Act.put, List.setIfInBounds_toArray, List.set_cons_zero, List.set_cons_succ]
                refine go_take 3 87 _ (.int .i64 (pB : Int)) rfl (by kernel_rfl) (by kernel_rfl) (by kernel_rfl) (by kernel_rfl) (fun _ _ _ h => h) (Or.inl ⟨by kernel_rfl, fun u hu => by kernel_rfl⟩) hHeld ?_
                simp only [Act.put, List.setIfInBounds_toArray, List.set_cons_zero, List.set_cons_succ]
                refine go_take 4 88 _ (.pointer (some ⟨sb, sf + pB, none⟩)) rfl (by kernel_rfl) (by kernel_rfl) (by kernel_rfl) (by kernel_rfl) (fun _ _ _ h => h) (Or.inl ⟨by kernel_rfl, fun u hu => exec_ixT (c := ac) (i := pB) (pBlx) (.tmp 86) (.tmp 87) (by kernel_rfl) (by kernel_rfl) (by kernel_rfl)⟩) hHeld ?_
                simp only [Act.put, List.setIfInBounds_toArray, List.set_cons_zero, List.set_cons_succ]
                refine go_take 5 89 _ (.string ⟨tx.toArray⟩) rfl (by kernel_rfl) (by kernel_rfl) (by kernel_rfl) (by kernel_rfl) (fun _ _ _ h => h) (Or.inl ⟨by kernel_rfl, fun u hu => load_tx (hcell_keep hu ca) (.tmp 88) (by kernel_rfl) (by kernel_rfl)⟩) hHeld ?_
                simp only [Act.put, List.setIfInBounds_toArray, List.set_cons_zero, List.set_cons_succ]
                refine go_take 6 90 _ (.agg #[.int .u8 45, .string ⟨tx.toArray⟩]) rfl (by kernel_rfl) (by kernel_rfl) (by kernel_rfl) (by kernel_rfl) (fun _ _ _ h => h) (Or.inl ⟨by kernel_rfl, fun u hu => by kernel_rfl⟩) hHeld ?_
                simp only [Act.put, List.setIfInBounds_toArray, List.set_cons_zero, List.set_cons_succ]
                refine go_two 1 85 _ 7 91 _ rfl (by kernel_rfl) rfl (by kernel_rfl) (by kernel_rfl) (by kernel_rfl) (by kernel_rfl) (.slice oo x.length oc) (wr.drewN 1) (load_mks hbD (.tmp 84) (by kernel_rfl) (by kernel_rfl)) hLD (.slice (some ⟨(wr.drewN 1).heap.size, 0, none⟩) 1 1) ((wr.drewN 1).alloc (mkO ⟨45, tx⟩)) (by kernel_rfl) hLA ?_ ?_
                · simp only [Act.put, List.setIfInBounds_toArray, List.set_cons_zero, List.set_cons_succ]
                  refine go_val 7 91 _ rfl (by kernel_rfl) (by kernel_rfl) (by kernel_rfl) (.slice (some ⟨(wr.drewN 1).heap.size, 0, none⟩) 1 1) ((wr.drewN 1).alloc (mkO ⟨45, tx⟩)) (by kernel_rfl) hLA ?_
                  simp only [Act.put, List.setIfInBounds_toArray, List.set_cons_zero, List.set_cons_succ]
                  refine go_val 8 92 _ rfl (by kernel_rfl) (by kernel_rfl) (by kernel_rfl) (.slice p3 (x.length + 1) q3) u3 (exec_app (.tmp 85) (.tmp 91) (by kernel_rfl) (by kernel_rfl) (by kernel_rfl) hr3) hL3 ?_
                  simp only [Act.put, List.setIfInBounds_toArray, List.set_cons_zero, List.set_cons_succ]
                  refine go_take 9 93 _ (.pointer (some ⟨w1.heap.size, 4, none⟩)) rfl (by kernel_rfl) (by kernel_rfl) (by kernel_rfl) (by kernel_rfl) (fun _ _ _ h => h) (Or.inl ⟨by kernel_rfl, fun u hu => by kernel_rfl⟩) hL3 ?_
                  simp only [Act.put, List.setIfInBounds_toArray, List.set_cons_zero, List.set_cons_succ]
                  refine go_skip 10 _ rfl (by kernel_rfl) (by kernel_rfl) (by kernel_rfl) (u3.setCell ⟨w1.heap.size, 4, none⟩ (.slice p3 (x.length + 1) q3)) (exec_storeL (v := .slice p3 (x.length + 1) q3) (o' := p3) (n' := x.length + 1) (c' := q3) (hbx3.frozen 4) hbx3.cells.2.2.2.2 rfl (.tmp 93) (.tmp 92) (by kernel_rfl) (by kernel_rfl) (by kernel_rfl)) hL4 ?_
                  refine wpAnyH_done (by kernel_rfl) ?_ _
                  refine NoPanic.normal ?_
                  go_wp2
                  exact ⟨⟨pB + 1, _, x ++ [⟨45, tx⟩], by omega, by go_num, ⟨_, _, by rw [List.length_append]; rfl⟩, hI4, HX⟩, by simp [intOf]; omega⟩
                · simp only [Act.put, List.setIfInBounds_toArray, List.set_cons_zero, List.set_cons_succ]
                  refine go_val 1 85 _ rfl (by kernel_rfl) (by kernel_rfl) (by kernel_rfl) (.slice oo x.length oc) ((wr.drewN 1).alloc (mkO ⟨45, tx⟩)) (load_mks hbA (.tmp 84) (by kernel_rfl) (by kernel_rfl)) hLA ?_
                  simp only [Act.put, List.setIfInBounds_toArray, List.set_cons_zero, List.set_cons_succ]
                  refine go_val 8 92 _ rfl (by kernel_rfl) (by kernel_rfl) (by kernel_rfl) (.slice p3 (x.length + 1) q3) u3 (exec_app (.tmp 85) (.tmp 91) (by kernel_rfl) (by kernel_rfl) (by kernel_rfl) hr3) hL3 ?_
                  simp only [Act.put, List.setIfInBounds_toArray, List.set_cons_zero, List.set_cons_succ]
                  refine go_take 9 93 _ (.pointer (some ⟨w1.heap.size, 4, none⟩)) rfl (by kernel_rfl) (by kernel_rfl) (by kernel_rfl) (by kernel_rfl) (fun _ _ _ h => h) (Or.inl ⟨by kernel_rfl, fun u hu => by kernel_rfl⟩) hL3 ?_
                  simp only [Act.put, List.setIfInBounds_toArray, List.set_cons_zero, List.set_cons_succ]
                  refine go_skip 10 _ rfl (by kernel_rfl) (by kernel_rfl) (by kernel_rfl) (u3.setCell ⟨w1.heap.size, 4, none⟩ (.slice p3 (x.length + 1) q3)) (exec_storeL (v := .slice p3 (x.length + 1) q3) (o' := p3) (n' := x.length + 1) (c' := q3) (hbx3.frozen 4) hbx3.cells.2.2.2.2 rfl (.tmp 93) (.tmp 92) (by kernel_rfl) (by kernel_rfl) (by kernel_rfl)) hL4 ?_
                  refine wpAnyH_done (by kernel_rfl) ?_ _
                  refine NoPanic.normal ?_
                  go_wp2
                  exact ⟨⟨pB + 1, _, x ++ [⟨45, tx⟩], by omega, by go_num, ⟨_, _, by rw [List.length_append]; rfl⟩, hI4, HX⟩, by simp [intOf]; omega⟩
              · have pBge : decide ((pB : Int) < (cA + cAN)) = false := decide_eq_false pBlt
                have HI3 : Hid (x ++ RS2 = RL) := (by
                  have h := HI.out
                  rw [show cut a pB ((cA + cAN) - pB) = [] by simp only [cut]; rw [show ((cA + cAN) - (pB : Int)).toNat = 0 by omega, List.take_zero]] at h
                  show _ = _
                  simpa [mks] using h)
                clear HI
                go_wp2_with fail
                go_quiet (fail)
                have hI := hI.drewN nq
                have HBw := Below.dN HBw nq
                generalize wr.drewN nq = wr at *
                obtain ⟨c0, c1, c2, c3⟩ := hgA wr HBw
                dsimp only at c0 c1 c2 c3
                go_wp2
                go_loopw [16] (fun zv wr => ∃ (pC : Nat) (ov : Value) (x : List Mk), (pC : Int) ≤ (cB + cBN) ∧ zv = .int .i64 (pC : Int) ∧ (∃ oo oc, ov = .slice oo x.length oc) ∧ Iv w1 ⟨0, 0, 0, 0, []⟩ ov x (.slice none 0 0) [] wr ∧ Hid (x ++ mks 43 (cut b pC ((cB + cBN) - pC)) ++ RS3 = RL)) (fun zv _ => ((cB + cBN) - intOf zv).toNat)
                case atStart => exact ⟨kB, _, x, by have := HKB.out; omega, by rw [HKB.out], ⟨_, _, rfl⟩, hI, by have h := HI3.out; rw [← HR2.out] at h; show _ = _; rw [← HKB.out, show cB + cBN - cB = cBN by omega, ← h]; simp⟩
                case round =>
                  obtain ⟨pC, ov, x, pCb, rfl, ⟨oo, oc, rfl⟩, hI, HI⟩ := hrel
                  have HBw : Below w.heap.size w wr := hBw1.trans (hI.low.mono hBw1.size)
                  obtain ⟨c0, c1, c2, c3⟩ := hgA wr HBw
                  dsimp only at c0 c1 c2 c3
                  by_cases pClt : (pC : Int) < (cB + cBN)
                  · have pCle : (cB + cBN) ≤ (b.length : Int) := by omega
                    have pClx : pC < b.length := by omega
                    have pC0 : (0 : Int) ≤ (pC : Int) := by omega
                    go_wp2_with fail
                    go_quiet (fail)
                    have hI := hI.drewN nq
                    have HBw := Below.dN HBw nq
                    generalize wr.drewN nq = wr at *
                    obtain ⟨c0, c1, c2, c3⟩ := hgA wr HBw
                    dsimp only at c0 c1 c2 c3
                    go_wp2_with fail
                    obtain ⟨tx, htx⟩ : ∃ tx, b[pC]'(pClx) = tx := ⟨_, rfl⟩
                    obtain ⟨sb, sf, hso, _, hsc⟩ := HS.at hb (by have h : pC < b.length := (pClx); omega)
                    subst hso
                    have ca := hsc pC (pClx)
                    rw [htx] at ca
                    clear hsc
                    have HX : Hid (x ++ [⟨43, tx⟩] ++ mks 43 (cut b ((pC + 1 : Nat) : Int) ((cB + cBN) - ((pC + 1 : Nat) : Int))) ++ RS3 = RL) := (by
                      have h := HI.out
                      rw [cut_step pClt pCle htx, mks_cons] at h
                      show _ = _
                      rw [← h]
                      simp)
                    have hxl : x.length ≤ RL.length := (by have h := congrArg List.length HI.out; simp only [List.length_append] at h; omega)
                    clear HI
                    have hsz := hI.low.size
                    have hID := (hI.drewN 1).alloc (mkO ⟨43, tx⟩)
                    have hdr : (wr.drewN 1).heap.size = wr.heap.size := rfl
                    have hda : ((wr.drewN 1).alloc (mkO ⟨43, tx⟩)).heap.size = wr.heap.size + 1 := by simp
                    have hbl := hI.box.lt
                    obtain ⟨v3, u3, hr3, hown3, hg3, hb3⟩ := run_append_w ((wr.drewN 1).alloc (mkO ⟨43, tx⟩)) 37 46 37 (.agg #[.int .u8 0, .string ⟨#[]⟩]) 2 24 Try.underlying37 infoMk rfl (by decide) (by decide) (w1.heap.size + 1) _ _ _ hID.own _ 1 (mkcells [⟨43, tx⟩]) (mk_row (wr.drewN 1) ⟨43, tx⟩) (mkcells_length _) (mkcells_one _) (by omega) (by rw [hda]; omega)
                    rw [← mkcells_append] at hown3
                    obtain ⟨p3, q3, hv3⟩ := (holds_of hown3).form
                    subst hv3
                    obtain ⟨hbx3, hI4⟩ := hID.grow (x' := x ++ [⟨43, tx⟩]) hg3 (by rw [List.length_append]; exact hown3) hb3
                    have hLD : Below w.heap.size w (wr.drewN 1) := Below.dN HBw 1
                    have hLA : Below w.heap.size w ((wr.drewN 1).alloc (mkO ⟨43, tx⟩)) := hLD.alloc hLD.size _
                    have hL3 : Below w.heap.size w u3 := hLA.grown hg3 hLA.size (fun j hj => by have := owns_ge hID.own hj; have := HW1.out; omega)
                    have hL4 : Below w.heap.size w (u3.setCell ⟨w1.heap.size, 4, none⟩ (.slice p3 (x.length + 1) q3)) := hL3.setCell (by have := HW1.out; show w.heap.size ≤ w1.heap.size; omega) _
                    have hbD : (wr.drewN 1).cell? ⟨w1.heap.size, 4, none⟩ = some (.slice oo x.length oc) := hI.box.cells.2.2.2.2
                    have hbA : ((wr.drewN 1).alloc (mkO ⟨43, tx⟩)).cell? ⟨w1.heap.size, 4, none⟩ = some (.slice oo x.length oc) := hID.box.cells.2.2.2.2
                    clear hown3 hg3 hb3 hID
                    refine wp_region_noPanic ?_
                    refine wp_region_held_drew (S := fun u => Below w.heap.size w u) (by kernel_rfl) hLD (fun hHeld => ?_)
                    refine go_take 0 114 _ (.pointer (some ⟨w1.heap.size, 4, none⟩)) rfl (by kernel_rfl) (by kernel_rfl) (by kernel_rfl) (by kernel_rfl) (fun _ _ _ h => h) (Or.inl ⟨by kernel_rfl, fun u hu => by kernel_rfl⟩) hHeld ?_
                    simp only [Act.put, List.setIfInBounds_toArray, List.set_cons_zero, List.set_cons_succ]
                    refine go_take 2 116 _ (.slice (some ⟨sb, sf, none⟩) b.length bc) rfl (by kernel_rfl) (by kernel_rfl) (by kernel_rfl) (by kernel_rfl) (fun _ _ _ h => h) (Or.inl ⟨by kernel_rfl, fun u hu => by kernel_rfl⟩) hHeld ?_
                    simp only [Act.put, List.setIfInBounds_toArray, List.set_cons_zero, List.set_cons_succ]
                    refine go_take 3 117 _ (.int .i64 (pC : Int)) rfl (by kernel_rfl) (by kernel_rfl) (by kernel_rfl) (by kernel_rfl) (fun _ _ _ h => h) (Or.inl ⟨by kernel_rfl, fun u hu => by kernel_rfl⟩) hHeld ?_
                    simp only [Act.put, List.setIfInBounds_toArray, List.set_cons_zero, List.set_cons_succ]
                    refine go_take 4 118 _ (.pointer (some ⟨sb, sf + pC, none⟩)) rfl (by kernel_rfl) (by kernel_rfl) (by kernel_rfl) (by kernel_rfl) (fun _ _ _ h => h) (Or.inl ⟨by kernel_rfl, fun u hu => exec_ixT (c := bc) (i := pC) (pClx) (.tmp 116) (.tmp 117) (by kernel_rfl) (by kernel_rfl) (by kernel_rfl)⟩) hHeld ?_
                    simp only [Act.put, List.setIfInBounds_toArray, List.set_cons_zero, List.set_cons_succ]
                    refine go_take 5 119 _ (.string ⟨tx.toArray⟩) rfl (by kernel_rfl) (by kernel_rfl) (by kernel_rfl) (by kernel_rfl) (fun _ _ _ h => h) (Or.inl ⟨by kernel_rfl, fun u hu => load_tx (hcell_keep hu ca) (.tmp 118) (by kernel_rfl) (by kernel_rfl)⟩) hHeld ?_
                    simp only [Act.put, List.setIfInBounds_toArray, List.set_cons_zero, List.set_cons_succ]
                    refine go_take 6 120 _ (.agg #[.int .u8 43, .string ⟨tx.toArray⟩]) rfl (by kernel_rfl) (by kernel_rfl) (by kernel_rfl) (by kernel_rfl) (fun _ _ _ h => h) (Or.inl ⟨by kernel_rfl, fun u hu => by kernel_rfl⟩) hHeld ?_
                    simp only [Act.put, List.setIfInBounds_toArray, List.set_cons_zero, List.set_cons_succ]
                    refine go_two 1 115 _ 7 121 _ rfl (by kernel_rfl) rfl (by kernel_rfl) (by kernel_rfl) (by kernel_rfl) (by kernel_rfl) (.slice oo x.length oc) (wr.drewN 1) (load_mks hbD (.tmp 114) (by kernel_rfl) (by kernel_rfl)) hLD (.slice (some ⟨(wr.drewN 1).heap.size, 0, none⟩) 1 1) ((wr.drewN 1).alloc (mkO ⟨43, tx⟩)) (by kernel_rfl) hLA ?_ ?_
                    · simp only [Act.put, List.setIfInBounds_toArray, List.set_cons_zero, List.set_cons_succ]
                      refine go_val 7 121 _ rfl (by kernel_rfl) (by kernel_rfl) (by kernel_rfl) (.slice (some ⟨(wr.drewN 1).heap.size, 0, none⟩) 1 1) ((wr.drewN 1).alloc (mkO ⟨43, tx⟩)) (by kernel_rfl) hLA ?_
                      simp only [Act.put, List.setIfInBounds_toArray, List.set_cons_zero, List.set_cons_succ]
                      refine go_val 8 122 _ rfl (by kernel_rfl) (by kernel_rfl) (by kernel_rfl) (.slice p3 (x.length + 1) q3) u3 (exec_app (.tmp 115) (.tmp 121) (by kernel_rfl) (by kernel_rfl) (by kernel_rfl) hr3) hL3 ?_
                      simp only [Act.put, List.setIfInBounds_toArray, List.set_cons_zero, List.set_cons_succ]
                      refine go_take 9 123 _ (.pointer (some ⟨w1.heap.size, 4, none⟩)) rfl (by kernel_rfl) (by kernel_rfl) (by kernel_rfl) (by kernel_rfl) (fun _ _ _ h => h) (Or.inl ⟨by kernel_rfl, fun u hu => by kernel_rfl⟩) hL3 ?_
                      simp only [Act.put, List.setIfInBounds_toArray, List.set_cons_zero, List.set_cons_succ]
                      refine go_skip 10 _ rfl (by kernel_rfl) (by kernel_rfl) (by kernel_rfl) (u3.setCell ⟨w1.heap.size, 4, none⟩ (.slice p3 (x.length + 1) q3)) (exec_storeL (v := .slice p3 (x.length + 1) q3) (o' := p3) (n' := x.length + 1) (c' := q3) (hbx3.frozen 4) hbx3.cells.2.2.2.2 rfl (.tmp 123) (.tmp 122) (by kernel_rfl) (by kernel_rfl) (by kernel_rfl)) hL4 ?_
                      refine wpAnyH_done (by kernel_rfl) ?_ _
                      refine NoPanic.normal ?_
                      go_wp2
                      exact ⟨⟨pC + 1, _, x ++ [⟨43, tx⟩], by omega, by go_num, ⟨_, _, by rw [List.length_append]; rfl⟩, hI4, HX⟩, by simp [intOf]; omega⟩
                    · simp only [Act.put, List.setIfInBounds_toArray, List.set_cons_zero, List.set_cons_succ]
                      refine go_val 1 115 _ rfl (by kernel_rfl) (by kernel_rfl) (by kernel_rfl) (.slice oo x.length oc) ((wr.drewN 1).alloc (mkO ⟨43, tx⟩)) (load_mks hbA (.tmp 114) (by kernel_rfl) (by kernel_rfl)) hLA ?_
                      simp only [Act.put, List.setIfInBounds_toArray, List.set_cons_zero, List.set_cons_succ]
                      refine go_val 8 122 _ rfl (by kernel_rfl) (by kernel_rfl) (by kernel_rfl) (.slice p3 (x.length + 1) q3) u3 (exec_app (.tmp 115) (.tmp 121) (by kernel_rfl) (by kernel_rfl) (by kernel_rfl) hr3) hL3 ?_
                      simp only [Act.put, List.setIfInBounds_toArray, List.set_cons_zero, List.set_cons_succ]
                      refine go_take 9 123 _ (.pointer (some ⟨w1.heap.size, 4, none⟩)) rfl (by kernel_rfl) (by kernel_rfl) (by kernel_rfl) (by kernel_rfl) (fun _ _ _ h => h) (Or.inl ⟨by kernel_rfl, fun u hu => by kernel_rfl⟩) hL3 ?_
                      simp only [Act.put, List.setIfInBounds_toArray, List.set_cons_zero, List.set_cons_succ]
                      refine go_skip 10 _ rfl (by kernel_rfl) (by kernel_rfl) (by kernel_rfl) (u3.setCell ⟨w1.heap.size, 4, none⟩ (.slice p3 (x.length + 1) q3)) (exec_storeL (v := .slice p3 (x.length + 1) q3) (o' := p3) (n' := x.length + 1) (c' := q3) (hbx3.frozen 4) hbx3.cells.2.2.2.2 rfl (.tmp 123) (.tmp 122) (by kernel_rfl) (by kernel_rfl) (by kernel_rfl)) hL4 ?_
                      refine wpAnyH_done (by kernel_rfl) ?_ _
                      refine NoPanic.normal ?_
                      go_wp2
                      exact ⟨⟨pC + 1, _, x ++ [⟨43, tx⟩], by omega, by go_num, ⟨_, _, by rw [List.length_append]; rfl⟩, hI4, HX⟩, by simp [intOf]; omega⟩
                  · have pCge : decide ((pC : Int) < (cB + cBN)) = false := decide_eq_false pClt
                    have HI3 : Hid (x ++ RS3 = RL) := (by
                      have h := HI.out
                      rw [show cut b pC ((cB + cBN) - pC) = [] by simp only [cut]; rw [show ((cB + cBN) - (pC : Int)).toNat = 0 by omega, List.take_zero]] at h
                      show _ = _
                      simpa [mks] using h)
                    clear HI
                    go_wp2_with fail
                    go_quiet (fail)
                    have hI := hI.drewN nq
                    have HBw := Below.dN HBw nq
                    generalize wr.drewN nq = wr at *
                    obtain ⟨c0, c1, c2, c3⟩ := hgA wr HBw
                    dsimp only at c0 c1 c2 c3
                    go_wp2
                    exact ⟨⟨i + 1, pB, cB + cBN, false, _, x, by omega, rfl, by go_num, ⟨_, _, rfl⟩, hI, (by have h := HRn.out; rw [show (pB : Int) = cA + cAN by omega]; exact ⟨h, by omega⟩), by rw [show (pB : Int) = cA + cAN by omega]; have h := HI3.out; rw [← HR3.out] at h; exact h⟩, by simp [intOf]; omega⟩
      · have HI2 : Hid (x ++ mks 32 (cut a (p : Int) (E - (p : Int))) ++ ([] : List Mk) = RL) := (by
          have h := HI.out
          rw [List.drop_of_length_le (by rw [List.length_cons, hN]; omega)] at h
          show _ = _
          rw [List.append_nil]
          exact h)
        have hEE := HEE.out
        have hend : decide ((i : Int) < (N : Int) + 1) = false := decide_eq_false (by omega)
        clear HI HRi
        go_wp2
        go_loopw [14] (fun zv wr => ∃ (pE : Nat) (ov : Value) (x : List Mk), 0 ≤ pE ∧ zv = .int .i64 (pE : Int) ∧ (∃ oo oc, ov = .slice oo x.length oc) ∧ Iv w1 ⟨0, 0, 0, 0, []⟩ ov x (.slice none 0 0) [] wr ∧ Hid (x ++ mks 32 (cut a pE (E - pE)) ++ ([] : List Mk) = RL)) (fun zv _ => (E - intOf zv).toNat)
        case atStart => exact ⟨p, _, x, Nat.zero_le _, by rfl, ⟨_, _, rfl⟩, hI, HI2⟩
        case round =>
          obtain ⟨pE, ov, x, pEb, rfl, ⟨oo, oc, rfl⟩, hI, HI⟩ := hrel
          have HBw : Below w.heap.size w wr := hBw1.trans (hI.low.mono hBw1.size)
          by_cases pElt : (pE : Int) < E
          · have pEle : E ≤ (a.length : Int) := by omega
            have pElx : pE < a.length := by omega
            have pE0 : (0 : Int) ≤ (pE : Int) := by omega
            go_wp2_with fail
            obtain ⟨tx, htx⟩ : ∃ tx, a[pE]'(pElx) = tx := ⟨_, rfl⟩
            obtain ⟨sb, sf, hso, _, hsc⟩ := HS.at ha (by have h : pE < a.length := (pElx); omega)
            subst hso
            have ca := hsc pE (pElx)
            rw [htx] at ca
            clear hsc
            have HX : Hid (x ++ [⟨32, tx⟩] ++ mks 32 (cut a ((pE + 1 : Nat) : Int) (E - ((pE + 1 : Nat) : Int))) ++ ([] : List Mk) = RL) := (by
              have h := HI.out
              rw [cut_step pElt pEle htx, mks_cons] at h
              show _ = _
              rw [← h]
              simp)
            have hxl : x.length ≤ RL.length := (by have h := congrArg List.length HI.out; simp only [List.length_append] at h; omega)
            clear HI
            have hsz := hI.low.size
            have hID := (hI.drewN 1).alloc (mkO ⟨32, tx⟩)
            have hdr : (wr.drewN 1).heap.size = wr.heap.size := rfl
            have hda : ((wr.drewN 1).alloc (mkO ⟨32, tx⟩)).heap.size = wr.heap.size + 1 := by simp
            have hbl := hI.box.lt
            obtain ⟨v3, u3, hr3, hown3, hg3, hb3⟩ := run_append_w ((wr.drewN 1).alloc (mkO ⟨32, tx⟩)) 37 46 37 (.agg #[.int .u8 0, .string ⟨#[]⟩]) 2 24 Try.underlying37 infoMk rfl (by decide) (by decide) (w1.heap.size + 1) _ _ _ hID.own _ 1 (mkcells [⟨32, tx⟩]) (mk_row (wr.drewN 1) ⟨32, tx⟩) (mkcells_length _) (mkcells_one _) (by omega) (by rw [hda]; omega)
            rw [← mkcells_append] at hown3
            obtain ⟨p3, q3, hv3⟩ := (holds_of hown3).form
            subst hv3
            obtain ⟨hbx3, hI4⟩ := hID.grow (x' := x ++ [⟨32, tx⟩]) hg3 (by rw [List.length_append]; exact hown3) hb3
            have hLD : Below w.heap.size w (wr.drewN 1) := Below.dN HBw 1
            have hLA : Below w.heap.size w ((wr.drewN 1).alloc (mkO ⟨32, tx⟩)) := hLD.alloc hLD.size _
            have hL3 : Below w.heap.size w u3 := hLA.grown hg3 hLA.size (fun j hj => by have := owns_ge hID.own hj; have := HW1.out; omega)
            have hL4 : Below w.heap.size w (u3.setCell ⟨w1.heap.size, 4, none⟩ (.slice p3 (x.length + 1) q3)) := hL3.setCell (by have := HW1.out; show w.heap.size ≤ w1.heap.size; omega) _
            have hbD : (wr.drewN 1).cell? ⟨w1.heap.size, 4, none⟩ = some (.slice oo x.length oc) := hI.box.cells.2.2.2.2
            have hbA : ((wr.drewN 1).alloc (mkO ⟨32, tx⟩)).cell? ⟨w1.heap.size, 4, none⟩ = some (.slice oo x.length oc) := hID.box.cells.2.2.2.2
            clear hown3 hg3 hb3 hID
            refine wp_region_noPanic ?_
            refine wp_region_held_drew (S := fun u => Below w.heap.size w u) (by kernel_rfl) hLD (fun hHeld => ?_)
            refine go_take 0 129 _ (.pointer (some ⟨w1.heap.size, 4, none⟩)) rfl (by kernel_rfl) (by kernel_rfl) (by kernel_rfl) (by kernel_rfl) (fun _ _ _ h => h) (Or.inl ⟨by kernel_rfl, fun u hu => by kernel_rfl⟩) hHeld ?_
            simp only [Act.put, List.setIfInBounds_toArray, List.set_cons_zero, List.set_cons_succ]
            refine go_take 2 131 _ (.slice (some ⟨sb, sf, none⟩) a.length ac) rfl (by kernel_rfl) (by kernel_rfl) (by kernel_rfl) (by kernel_rfl) (fun _ _ _ h => h) (Or.inl ⟨by kernel_rfl, fun u hu => by kernel_rfl⟩) hHeld ?_
            simp only [Act.put, List.setIfInBounds_toArray, List.set_cons_zero, List.set_cons_succ]
            refine go_take 3 132 _ (.int .i64 (pE : Int)) rfl (by kernel_rfl) (by kernel_rfl) (by kernel_rfl) (by kernel_rfl) (fun _ _ _ h => h) (Or.inl ⟨by kernel_rfl, fun u hu => by kernel_rfl⟩) hHeld ?_
            simp only [Act.put, List.setIfInBounds_toArray, List.set_cons_zero, List.set_cons_succ]
            refine go_take 4 133 _ (.pointer (some ⟨sb, sf + pE, none⟩)) rfl (by kernel_rfl) (by kernel_rfl) (by kernel_rfl) (by kernel_rfl) (fun _ _ _ h => h) (Or.inl ⟨by kernel_rfl, fun u hu => exec_ixT (c := ac) (i := pE) (pElx) (.tmp 131) (.tmp 132) (by kernel_rfl) (by kernel_rfl) (by kernel_rfl)⟩) hHeld ?_
            simp only [Act.put, List.setIfInBounds_toArray, List.set_cons_zero, List.set_cons_succ]
            refine go_take 5 134 _ (.string ⟨tx.toArray⟩) rfl (by kernel_rfl) (by kernel_rfl) (by kernel_rfl) (by kernel_rfl) (fun _ _ _ h => h) (Or.inl ⟨by kernel_rfl, fun u hu => load_tx (hcell_keep hu ca) (.tmp 133) (by kernel_rfl) (by kernel_rfl)⟩) hHeld ?_
            simp only [Act.put, List.setIfInBounds_toArray, List.set_cons_zero, List.set_cons_succ]
            refine go_take 6 135 _ (.agg #[.int .u8 32, .string ⟨tx.toArray⟩]) rfl (by kernel_rfl) (by kernel_rfl) (by kernel_rfl) (by kernel_rfl) (fun _ _ _ h => h) (Or.inl ⟨by kernel_rfl, fun u hu => by kernel_rfl⟩) hHeld ?_
            simp only [Act.put, List.setIfInBounds_toArray, List.set_cons_zero, List.set_cons_succ]
            refine go_two 1 130 _ 7 136 _ rfl (by kernel_rfl) rfl (by kernel_rfl) (by kernel_rfl) (by kernel_rfl) (by kernel_rfl) (.slice oo x.length oc) (wr.drewN 1) (load_mks hbD (.tmp 129) (by kernel_rfl) (by kernel_rfl)) hLD (.slice (some ⟨(wr.drewN 1).heap.size, 0, none⟩) 1 1) ((wr.drewN 1).alloc (mkO ⟨32, tx⟩)) (by kernel_rfl) hLA ?_ ?_
            · simp only [Act.put, List.setIfInBounds_toArray, List.set_cons_zero, List.set_cons_succ]
              refine go_val 7 136 _ rfl (by kernel_rfl) (by kernel_rfl) (by kernel_rfl) (.slice (some ⟨(wr.drewN 1).heap.size, 0, none⟩) 1 1) ((wr.drewN 1).alloc (mkO ⟨32, tx⟩)) (by kernel_rfl) hLA ?_
              simp only [Act.put, List.setIfInBounds_toArray, List.set_cons_zero, List.set_cons_succ]
              refine go_val 8 137 _ rfl (by kernel_rfl) (by kernel_rfl) (by kernel_rfl) (.slice p3 (x.length + 1) q3) u3 (exec_app (.tmp 130) (.tmp 136) (by kernel_rfl) (by kernel_rfl) (by kernel_rfl) hr3) hL3 ?_
              simp only [Act.put, List.setIfInBounds_toArray, List.set_cons_zero, List.set_cons_succ]
              refine go_take 9 138 _ (.pointer (some ⟨w1.heap.size, 4, none⟩)) rfl (by kernel_rfl) (by kernel_rfl) (by kernel_rfl) (by kernel_rfl) (fun _ _ _ h => h) (Or.inl ⟨by kernel_rfl, fun u hu => by kernel_rfl⟩) hL3 ?_
              simp only [Act.put, List.setIfInBounds_toArray, List.set_cons_zero, List.set_cons_succ]
              refine go_skip 10 _ rfl (by kernel_rfl) (by kernel_rfl) (by kernel_rfl) (u3.setCell ⟨w1.heap.size, 4, none⟩ (.slice p3 (x.length + 1) q3)) (exec_storeL (v := .slice p3 (x.length + 1) q3) (o' := p3) (n' := x.length + 1) (c' := q3) (hbx3.frozen 4) hbx3.cells.2.2.2.2 rfl (.tmp 138) (.tmp 137) (by kernel_rfl) (by kernel_rfl) (by kernel_rfl)) hL4 ?_
              refine wpAnyH_done (by kernel_rfl) ?_ _
              refine NoPanic.normal ?_
              go_wp2
              exact ⟨⟨pE + 1, _, x ++ [⟨32, tx⟩], by omega, by go_num, ⟨_, _, by rw [List.length_append]; rfl⟩, hI4, HX⟩, by simp [intOf]; omega⟩
            · simp only [Act.put, List.setIfInBounds_toArray, List.set_cons_zero, List.set_cons_succ]
              refine go_val 1 130 _ rfl (by kernel_rfl) (by kernel_rfl) (by kernel_rfl) (.slice oo x.length oc) ((wr.drewN 1).alloc (mkO ⟨32, tx⟩)) (load_mks hbA (.tmp 129) (by kernel_rfl) (by kernel_rfl)) hLA ?_
              simp only [Act.put, List.setIfInBounds_toArray, List.set_cons_zero, List.set_cons_succ]
              refine go_val 8 137 _ rfl (by kernel_rfl) (by kernel_rfl) (by kernel_rfl) (.slice p3 (x.length + 1) q3) u3 (exec_app (.tmp 130) (.tmp 136) (by kernel_rfl) (by kernel_rfl) (by kernel_rfl) hr3) hL3 ?_
              simp only [Act.put, List.setIfInBounds_toArray, List.set_cons_zero, List.set_cons_succ]
              refine go_take 9 138 _ (.pointer (some ⟨w1.heap.size, 4, none⟩)) rfl (by kernel_rfl) (by kernel_rfl) (by kernel_rfl) (by kernel_rfl) (fun _ _ _ h => h) (Or.inl ⟨by kernel_rfl, fun u hu => by kernel_rfl⟩) hL3 ?_
              simp only [Act.put, List.setIfInBounds_toArray, List.set_cons_zero, List.set_cons_succ]
              refine go_skip 10 _ rfl (by kernel_rfl) (by kernel_rfl) (by kernel_rfl) (u3.setCell ⟨w1.heap.size, 4, none⟩ (.slice p3 (x.length + 1) q3)) (exec_storeL (v := .slice p3 (x.length + 1) q3) (o' := p3) (n' := x.length + 1) (c' := q3) (hbx3.frozen 4) hbx3.cells.2.2.2.2 rfl (.tmp 138) (.tmp 137) (by kernel_rfl) (by kernel_rfl) (by kernel_rfl)) hL4 ?_
              refine wpAnyH_done (by kernel_rfl) ?_ _
              refine NoPanic.normal ?_
              go_wp2
              exact ⟨⟨pE + 1, _, x ++ [⟨32, tx⟩], by omega, by go_num, ⟨_, _, by rw [List.length_append]; rfl⟩, hI4, HX⟩, by simp [intOf]; omega⟩
          · have pEge : decide ((pE : Int) < E) = false := decide_eq_false pElt
            have HI3 : Hid (x ++ ([] : List Mk) = RL) := (by
              have h := HI.out
              rw [show cut a pE (E - pE) = [] by simp only [cut]; rw [show (E - (pE : Int)).toNat = 0 by omega, List.take_zero]] at h
              show _ = _
              simpa [mks] using h)
            clear HI
            have hxR : x = RL := by have h := HI3.out; simpa using h
            have hnB := ((numB_iff f).1 HRT.out.1.1)
            have hfB := HFB.out
            have HCN : Hid (cntH (s0 : Int) (f.B - m) x = R) := (by show _ = _; rw [HRR.out, hxR, hs1])
            obtain ⟨e0, e1, e2, e3, e4⟩ := hI.box.cells
            obtain ⟨t0, t1, t2, t3⟩ := (h9.low hI.low).cells
            have hzz := hz1.low hI.low
            have hown := hI.own
            have hxl2 : x.length ≤ 1099511627776 := by rw [hxR]; omega
            have hlsR : R.ls = x := by rw [← HCN.out]; rfl
            dsimp only at e0 e1 e2 e3 e4
            clear HI3 hxR
            go_wp2_with fail
            refine (rcount_f 0 0 0 0 x (.slice oo x.length oc) (s0 : Int) (f.B - m) wr (holds_of hown) hxl2 (by omega) (by omega) R HCN).mono ?_
            rintro e wr2 ⟨rfl, hB2⟩
            have hzz2 := hzz.low hB2
            have hown2 := owns_keep hown hB2
            have hBw2 := HBw.trans (hB2.mono HBw.size)
            obtain ⟨RA, RAN, RB, RBN, Rls⟩ := R
            dsimp only at hlsR
            subst hlsR
            obtain ⟨z0, z1, z2, z3, z4⟩ := hzz2.cells
            have zf0 := hzz2.frozen 0
            have zf1 := hzz2.frozen 1
            have zf2 := hzz2.frozen 2
            have zf3 := hzz2.frozen 3
            have zf4 := hzz2.frozen 4
            have hP := hzz2.put5 (.int .i64 RA) (.int .i64 RAN) (.int .i64 RB) (.int .i64 RBN) (.slice oo Rls.length oc)
            dsimp only at z0 z1 z2 z3 z4
            have hw1 := HW1.out
            unfold hkV
            dsimp only
            clear HRT HRL HFB HEE HRR e0 e1 e2 e3 e4 t0 t1 t2 t3 HCN hB2 hzz hown HW1 hs1
            go_wp2
            refine bodyPost_ret (v := .agg #[.int .i64 RA, .int .i64 RAN, .int .i64 RB, .int .i64 RBN, .slice oo Rls.length oc]) (results_cell_row rfl _ _ w.heap.size 39 #[.int .i64 RA, .int .i64 RAN, .int .i64 RB, .int .i64 RBN, .slice oo Rls.length oc] (0, 0) _ rfl hP Try.underlying39 rfl (by kernel_rfl)) rfl ⟨_, rfl, ?_, ?_⟩
            · have key : ∀ (u : World) (j : Nat) (z : Value), u.ownsRow w.heap.size 46 2 (.slice oo Rls.length oc) Rls.length (mkcells Rls) → (∀ g, (Value.slice oo Rls.length oc).ownBlock = some g → w.heap.size < g) → (u.setCell ⟨w.heap.size, j, none⟩ z).ownsRow w.heap.size 46 2 (.slice oo Rls.length oc) Rls.length (mkcells Rls) := fun u j z ho hg => own_kept ho (grown_set u _ j z) (fun k hk e => by cases hk; have := hg _ e; omega)
              have hgg : ∀ g, (Value.slice oo Rls.length oc).ownBlock = some g → w.heap.size < g := fun g hg => by have := owns_ge hown2 hg; omega
              have h0 := own_base (B' := w.heap.size) hown2 (by omega)
              exact key _ _ _ (key _ _ _ (key _ _ _ (key _ _ _ (key _ _ _ h0 hgg) hgg) hgg) hgg) hgg
            · exact ((((hBw2.setCell (Nat.le_refl _) _).setCell (Nat.le_refl _) _).setCell (Nat.le_refl _) _).setCell (Nat.le_refl _) _).setCell (Nat.le_refl _) _
end Go.Proofs.Ythckcdpgjdbgcaa

/- Which lists of changes are edit scripts: the reference's Check, walked. -/
namespace Go.Proofs.Ythckcdpgjdbgcaa
open Go.RowKit

theorem count_any (z : Int) (w : World) : Calls Try.prog 47 #[.int .i64 z] w fun e w' => e = .returned (.bool (nat31 z)) ∧ w' = w := by
  by_cases h0 : 0 ≤ z
  · by_cases h1 : z ≤ 2147483647
    · go_enter Try.func47, Try.ntmps47
      go_wp2
      go_ret
      simp [nat31, h0, h1]
    · go_enter Try.func47, Try.ntmps47
      go_wp2
      go_ret
      simp [nat31, h0, h1]
  · go_enter Try.func47, Try.ntmps47
    go_wp2
    go_ret
    have : ¬ 0 ≤ z := by omega
    simp [nat31, this]


set_option maxRecDepth 10000 in
set_option maxHeartbeats 4000000 in
theorem rCheck_f (l : List Ch) (n m r : Int) (v : Value) (w : World) (hl : HCh w v l) (hlen : l.length ≤ 1099511627776) (hn : n ≤ 9223372036854775807) (hm : m ≤ 9223372036854775807) (hr : Hid (chk l n m = r)) :
    Calls Try.prog 30 #[v, .int .i64 n, .int .i64 m] w fun e w' => e = .returned (.int .i64 r) ∧ Below w.heap.size w w' := by
  obtain ⟨ao, ca, rfl⟩ := Holds.form hl
  by_cases hn0 : n < 0
  · go_enter Try.func30, Try.ntmps30
    go_wp2
    go_ret
    refine ⟨ret_int ?_, Below.refl _ w⟩
    rw [← hr.out, chk_no (fun h => by have := h.1; omega)]
  by_cases hm0 : m < 0
  · go_enter Try.func30, Try.ntmps30
    go_wp2
    go_ret
    refine ⟨ret_int ?_, Below.refl _ w⟩
    rw [← hr.out, chk_no (fun h => by have := h.2.1; omega)]
  go_enter Try.func30, Try.ntmps30
  go_wp2
  go_loopw [7, 8, 9] (fun av bv iv wr => ∃ (k : Nat) (a b : Int), k ≤ l.length ∧ av = .int .i64 a ∧ bv = .int .i64 b ∧ iv = .int .i64 k ∧ 0 ≤ a ∧ a ≤ 4294967294 ∧ 0 ≤ b ∧ b ≤ 4294967294 ∧ Below w.heap.size w wr ∧ Hid (Script l n m ↔ Right (decide (k = 0)) a b n m (l.drop k))) (fun _ _ iv _ => l.length - (intOf iv).toNat)
  case atStart => exact ⟨0, 0, 0, Nat.zero_le _, rfl, rfl, rfl, by omega, by omega, by omega, by omega, Below.refl _ w, (by show _ ↔ _; simp only [Script, List.drop_zero, decide_true]; constructor; exact fun h => h.2.2; exact fun h => ⟨by omega, by omega, h⟩)⟩
  case round =>
    obtain ⟨k, a, b, hk, rfl, rfl, rfl, ha, han, hb, hbm, hB, hR⟩ := hrel
    by_cases hlt : k < l.length
    · obtain ⟨bk, off, rfl, hbk, hc⟩ := HCh.at (HCh.keep hl hB (Nat.le_refl _)) (by omega)
      obtain ⟨c0, c1, c2, c3⟩ := hc k hlt
      have hR' := hR.out
      rw [List.drop_eq_getElem_cons hlt] at hR'
      obtain ⟨c, hcd⟩ : ∃ c, l[k] = c := ⟨_, rfl⟩
      rw [hcd] at hR' c0 c1 c2 c3
      clear hc hcd hR
      have HR : Hid (Script l n m ↔ Right (decide (k = 0)) a b n m (c :: l.drop (k + 1))) := hR'
      clear hR'
      have i1 : 0 ≤ (k : Int) := by omega
      have i2 : (k : Int) < (l.length : Int) := by omega
      obtain ⟨A, AN, B, BN⟩ := c
      dsimp only at c0 c1 c2 c3
      have hsz := hB.size
      have hB2 : Below w.heap.size w (wr.alloc (Obj.cells #[Value.int IntKind.i64 A, Value.int IntKind.i64 AN, Value.int IntKind.i64 B, Value.int IntKind.i64 BN] 35)) := hB.alloc hsz _
      by_cases nA : nat31 A = true
      · by_cases nAN : nat31 AN = true
        · by_cases nB : nat31 B = true
          · by_cases nBN : nat31 BN = true
            · have pA : 0 ≤ A ∧ A ≤ 2147483647 := by simpa [nat31] using nA
              have pAN : 0 ≤ AN ∧ AN ≤ 2147483647 := by simpa [nat31] using nAN
              have pB : 0 ≤ B ∧ B ≤ 2147483647 := by simpa [nat31] using nB
              have pBN : 0 ≤ BN ∧ BN ≤ 2147483647 := by simpa [nat31] using nBN
              obtain ⟨pA0, pA1⟩ := pA
              obtain ⟨pAN0, pAN1⟩ := pAN
              obtain ⟨pB0, pB1⟩ := pB
              obtain ⟨pBN0, pBN1⟩ := pBN
              by_cases h0 : AN + BN = 0
              · go_wp2_with (go_at_call 47; refine (count_any _ _).mono ?_; rintro e w' ⟨rfl, rfl⟩)
                go_ret
                refine ⟨ret_int ?_, hB2⟩
                rw [← hr.out, chk_no]
                exact fun h => by obtain ⟨⟨q1, q2, q3, q4⟩, q5⟩ := HR.out.1 h; rw [numB_iff] at q1; dsimp only at q1; omega
              have HQ : Hid (numB ⟨A, AN, B, BN⟩ = true) := (by show _ = _; rw [numB_iff]; dsimp only; omega)
              by_cases h1 : A - a = B - b
              · by_cases h4 : A < a
                · go_wp2_with (go_at_call 47; refine (count_any _ _).mono ?_; rintro e w' ⟨rfl, rfl⟩)
                  go_ret
                  refine ⟨ret_int ?_, hB2⟩
                  rw [← hr.out, chk_no]
                  exact fun h => by obtain ⟨⟨q1, q2, q3, q4⟩, q5⟩ := HR.out.1 h; dsimp only at q3; omega
                by_cases h6 : 0 < (k : Int)
                · by_cases h5 : A = a
                  · subst h5
                    go_wp2_with (go_at_call 47; refine (count_any _ _).mono ?_; rintro e w' ⟨rfl, rfl⟩)
                    go_ret
                    refine ⟨ret_int ?_, hB2⟩
                    rw [← hr.out, chk_no]
                    exact fun h => by obtain ⟨⟨q1, q2, q3, q4⟩, q5⟩ := HR.out.1 h; rcases q4 with q4 | q4; (have := of_decide_eq_true q4; omega); (dsimp only at q4; omega)
                  · have h5a : a < A := by omega
                    have h5b : decide (A = a) = false := decide_eq_false h5
                    have h5c : (A == a) = false := by simpa using h5
                    go_wp2_with (go_at_call 47; refine (count_any _ _).mono ?_; rintro e w' ⟨rfl, rfl⟩)
                    go_roundw
                    case rel => exact ⟨k + 1, A + AN, B + BN, by omega, by go_num, by go_num, by go_num, by omega, by omega, by omega, by omega, hB2, (by
                      show _ ↔ _
                      refine HR.out.trans ?_
                      have : decide (k + 1 = 0) = false := by simp
                      rw [this]
                      exact ⟨fun h => h.2, fun h => ⟨⟨HQ.out, h1, by dsimp only; omega, .inr (by dsimp only; omega)⟩, h⟩⟩)⟩
                    case measure => simp [intOf]; omega
                · go_wp2_with (go_at_call 47; refine (count_any _ _).mono ?_; rintro e w' ⟨rfl, rfl⟩)
                  go_roundw
                  case rel => exact ⟨k + 1, A + AN, B + BN, by omega, by go_num, by go_num, by go_num, by omega, by omega, by omega, by omega, hB2, (by
                    show _ ↔ _
                    refine HR.out.trans ?_
                    have : decide (k + 1 = 0) = false := by simp
                    rw [this]
                    exact ⟨fun h => h.2, fun h => ⟨⟨HQ.out, h1, by dsimp only; omega, .inl (decide_eq_true (by omega))⟩, h⟩⟩)⟩
                  case measure => simp [intOf]; omega
              · go_wp2_with (go_at_call 47; refine (count_any _ _).mono ?_; rintro e w' ⟨rfl, rfl⟩)
                go_ret
                refine ⟨ret_int ?_, hB2⟩
                rw [← hr.out, chk_no]
                exact fun h => by obtain ⟨⟨q1, q2, q3, q4⟩, q5⟩ := HR.out.1 h; dsimp only at q2; omega
            · rw [Bool.not_eq_true] at nBN
              go_wp2_with (go_at_call 47; refine (count_any _ _).mono ?_; rintro e w' ⟨rfl, rfl⟩)
              go_ret
              refine ⟨ret_int ?_, hB2⟩
              rw [← hr.out, chk_no]
              exact fun h => by obtain ⟨⟨q1, q2, q3, q4⟩, q5⟩ := HR.out.1 h; rw [numB_iff] at q1; dsimp only at q1; simp [nat31] at nBN; omega
          · rw [Bool.not_eq_true] at nB
            go_wp2_with (go_at_call 47; refine (count_any _ _).mono ?_; rintro e w' ⟨rfl, rfl⟩)
            go_ret
            refine ⟨ret_int ?_, hB2⟩
            rw [← hr.out, chk_no]
            exact fun h => by obtain ⟨⟨q1, q2, q3, q4⟩, q5⟩ := HR.out.1 h; rw [numB_iff] at q1; dsimp only at q1; simp [nat31] at nB; omega
        · rw [Bool.not_eq_true] at nAN
          go_wp2_with (go_at_call 47; refine (count_any _ _).mono ?_; rintro e w' ⟨rfl, rfl⟩)
          go_ret
          refine ⟨ret_int ?_, hB2⟩
          rw [← hr.out, chk_no]
          exact fun h => by obtain ⟨⟨q1, q2, q3, q4⟩, q5⟩ := HR.out.1 h; rw [numB_iff] at q1; dsimp only at q1; simp [nat31] at nAN; omega
      · rw [Bool.not_eq_true] at nA
        go_wp2_with (go_at_call 47; refine (count_any _ _).mono ?_; rintro e w' ⟨rfl, rfl⟩)
        go_ret
        refine ⟨ret_int ?_, hB2⟩
        rw [← hr.out, chk_no]
        exact fun h => by obtain ⟨⟨q1, q2, q3, q4⟩, q5⟩ := HR.out.1 h; rw [numB_iff] at q1; dsimp only at q1; simp [nat31] at nA; omega
    · have hE := hR.out
      rw [List.drop_of_length_le (by omega)] at hE
      have HE : Hid (Script l n m ↔ a ≤ n ∧ b ≤ m ∧ n - a = m - b) := hE
      clear hE hR
      by_cases e1 : n < a
      · go_wp2
        go_ret
        refine ⟨ret_int ?_, hB⟩
        rw [← hr.out, chk_no]
        exact fun h => by have := HE.out.1 h; omega
      by_cases e2 : m < b
      · go_wp2
        go_ret
        refine ⟨ret_int ?_, hB⟩
        rw [← hr.out, chk_no]
        exact fun h => by have := HE.out.1 h; omega
      by_cases he : n - a = m - b
      · go_wp2
        go_ret
        refine ⟨ret_int ?_, hB⟩
        rw [← hr.out, chk_ok]
        exact HE.out.2 ⟨by omega, by omega, he⟩
      · go_wp2
        go_ret
        refine ⟨ret_int ?_, hB⟩
        rw [← hr.out, chk_no]
        exact fun h => he (HE.out.1 h).2.2
end Go.Proofs.Ythckcdpgjdbgcaa
