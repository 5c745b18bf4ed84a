/-
  Texts that belong together, joined: HuIv, HuCn, HuM2, HuM3.
-/
import Derived.Test.YthckcdpgjdbgcaaPartA3
import Derived.Test.YthckcdpgjdbgcaaPartA2

/- The reference's Invert of layer 11, walked. -/
namespace Go.Proofs.Ythckcdpgjdbgcaa
open Go.RowKit

/-- two operations that yield values, whichever comes first -/
theorem go_two {P : Program} {S : World → Prop} {md : Region.Mode} {ops : Array Oper} {Q : Exit → Act → World → Prop} {fuel : Nat} {listed : Array Bool} {A : Act} {w : World}
    (i d : Nat) (op : Oper) (j e : Nat) (oq : Oper) (hi : ops[i]? = some op) (hd : op.dst = some d) (hj : ops[j]? = some oq) (he : oq.dst = some e) (hr : Region.ready md ops listed = [i, j]) (hwt : Region.wanted op (yielded ops A.tmps) = true) (hwq : Region.wanted oq (yielded ops A.tmps) = true)
    (vp : Value) (wp : World) (hp : (execOp A.eval op).run P w = .ok (.value vp) wp) (hSp : S wp)
    (vq : Value) (wq : World) (hq : (execOp A.eval oq).run P w = .ok (.value vq) wq) (hSq : S wq)
    (h : wpAnyH P md ops Q S fuel (listed.setIfInBounds i true) (A.put (some d) vp) wp)
    (h2 : wpAnyH P md ops Q S fuel (listed.setIfInBounds j true) (A.put (some e) vq) wq) :
    wpAnyH P md ops Q S (fuel + 1) listed A w := by
  refine wpAnyH_ready hr (by simp) (AllReadyH.cons hi (fun K hK => ?_) (AllReadyH.cons hj (fun K hK => ?_) AllReadyH.nil))
  · refine step_want hwt ?_
    unfold Oper.wp
    rw [hp, Oper.upon_value]
    exact hK.out _ _ hSp (fun _ => by rw [hd]; exact h)
  · refine step_want hwq ?_
    unfold Oper.wp
    rw [hq, Oper.upon_value]
    exact hK.out _ _ hSq (fun _ => by rw [he]; exact h2)
/-- append, run by itself -/
theorem exec_app {w w' : World} {T : TypeId} {v vx v' : Value} {op : Oper} (x y : Operand) (ho : op.op = .call { callee := .builtin .append, args := #[x, y], argTypes := #[T, T] }) {ev : Operand → Value} (hx : ev x = v) (hy : ev y = vx) (hr : (Builtin.append_ #[T, T] op.type #[v, vx]).run Try.prog w = .ok v' w') :
    (execOp ev op).run Try.prog w = .ok (.value v') w' := by
  simp [execOp, ho, resolve, invoke, builtin, hx, hy, hr, Result.andThen]
/-- a line is read out of its box -/
theorem load_mk {u : World} {b : Nat} {m : Mk} (q : Mx u b m) {op : Oper} (x : Operand) (ho : op.op = .load 46 x) {ev : Operand → Value} (hx : ev x = .pointer (some ⟨b, 0, none⟩)) :
    (execOp ev op).run Try.prog u = .ok (.value (.agg #[.int .u8 m.sg, .string ⟨m.tx.toArray⟩])) u := by
  have hL : (loadVar 46 ⟨b, 0, none⟩).run Try.prog u = .ok (.agg #[.int .u8 m.sg, .string ⟨m.tx.toArray⟩]) u := run_loadVar_row u b _ _ _ _ _ q Try.underlying46 rfl (by kernel_rfl)
  simp only [execOp, ho, hx, Instr.loadAt, Instr.sureAddr, Sem.run_bind, Sem.run_pure, Result.andThen_ok, hL]
theorem load_mks {u : World} {a : Addr} {o : Option Addr} {n c : Nat} (h : u.cell? a = some (.slice o n c)) {op : Oper} (x : Operand) (ho : op.op = .load 37 x) {ev : Operand → Value} (hx : ev x = .pointer (some a)) :
    (execOp ev op).run Try.prog u = .ok (.value (.slice o n c)) u := by
  simp only [execOp, ho, hx]
  go_simp

/-- lines that grow in a hunk's box, and lines that wait: all else as it was -/
structure Iv (w : World) (q : Hk) (ov : Value) (x : List Mk) (av : Value) (y : List Mk) (u : World) : Prop where
  low : Below w.heap.size w u
  box : Hx u w.heap.size q ov
  own : u.ownsRow (w.heap.size + 1) 46 2 ov x.length (mkcells x)
  add : u.ownsRow (w.heap.size + 1) 46 2 av y.length (mkcells y)
  ne : ∀ g, ov.ownBlock = some g → av.ownBlock ≠ some g
section
variable {w : World} {q : Hk} {ov ov' av av' : Value} {x x' y y' : List Mk} {u u' : World}
theorem Iv.alloc (h : Iv w q ov x av y u) (o : Obj) : Iv w q ov x av y (u.alloc o) :=
  ⟨h.low.alloc h.low.size o, h.box.low ((Below.refl _ u).alloc (Nat.le_refl _) o), h.own.alloc o, h.add.alloc o, h.ne⟩
theorem Iv.drewN (h : Iv w q ov x av y u) (n : Nat) : Iv w q ov x av y (u.drewN n) := ⟨Below.dN h.low n, h.box, h.own, h.add, h.ne⟩
theorem own_kept {e : TypeId} {s B : Nat} {v : Value} {n : Nat} {xs : List Value} (ho : u.ownsRow B e s v n xs) {g : Option Nat} (hg : u.grownBy u' g) (hne : ∀ k, g = some k → v.ownBlock ≠ some k) : u'.ownsRow B e s v n xs := by
  refine ⟨ho.1, ?_⟩
  rcases ho.2 with q | ⟨b, cap, cur, rfl, q2, q3, q4⟩
  · exact .inl q
  · refine .inr ⟨b, cap, cur, rfl, q2, ?_, q4⟩
    rw [hg.block b (Array.getElem?_eq_some_iff.1 q3).1 (fun e => hne b e.symm rfl)]
    exact q3
/-- lines more -/
theorem Iv.grow (h : Iv w q ov x av y u) (hg : u.grownBy u' ov.ownBlock) (ho : u'.ownsRow (w.heap.size + 1) 46 2 ov' x'.length (mkcells x')) (hb : ov'.ownBlock = ov.ownBlock ∨ ov'.ownBlock = some u.heap.size) : Hx u' w.heap.size q ov ∧ Iv w q ov' x' av y (u'.setCell ⟨w.heap.size, 4, none⟩ ov') := by
  have hbx : Hx u' w.heap.size q ov := h.box.keep hg (fun e => by have := owns_ge h.own e.symm; omega)
  have hadd := own_kept h.add hg (fun k hk => h.ne k hk)
  have hs := grown_set u' w.heap.size 4 ov'
  have hlow : Below w.heap.size w u' := h.low.grown hg h.low.size (fun j hj => by have := owns_ge h.own hj; omega)
  refine ⟨hbx, hlow.grown hs hlow.size (fun j hj => by cases hj; exact Nat.le_refl _), hbx.setl ov', own_kept ho hs ?_, own_kept hadd hs ?_, ?_⟩
  · intro k hk e
    cases hk
    have := owns_ge ho e
    omega
  · intro k hk e
    cases hk
    have := owns_ge h.add e
    omega
  · intro g hg' e
    rcases hb with hb | hb
    · rw [hb] at hg'
      exact h.ne g hg' e
    · rw [hb] at hg'
      cases hg'
      have := own_lt h.add e
      omega
/-- lines more that wait -/
theorem Iv.wait (h : Iv w q ov x av y u) (hg : u.grownBy u' av.ownBlock) (ho : u'.ownsRow (w.heap.size + 1) 46 2 av' y'.length (mkcells y')) (hb : av'.ownBlock = av.ownBlock ∨ av'.ownBlock = some u.heap.size) : Iv w q ov x av' y' u' := by
  refine ⟨h.low.grown hg h.low.size (fun j hj => by have := owns_ge h.add hj; omega), h.box.keep hg (fun e => by have := owns_ge h.add e.symm; omega), own_kept h.own hg (fun k hk e => h.ne k e hk), ho, ?_⟩
  intro g hg' e
  rcases hb with hb | hb
  · rw [hb] at e
    exact h.ne g hg' e
  · rw [hb] at e
    cases e
    have := own_lt h.own hg'
    omega
/-- lines more, and none that wait -/
theorem Iv.last (h : Iv w q ov x av y u) (hg : u.grownBy u' ov.ownBlock) (ho : u'.ownsRow (w.heap.size + 1) 46 2 ov' x'.length (mkcells x')) : Hx u' w.heap.size q ov ∧ Iv w q ov' x' (.slice none 0 0) [] (u'.setCell ⟨w.heap.size, 4, none⟩ ov') := by
  have hbx : Hx u' w.heap.size q ov := h.box.keep hg (fun e => by have := owns_ge h.own e.symm; omega)
  have hs := grown_set u' w.heap.size 4 ov'
  have hlow : Below w.heap.size w u' := h.low.grown hg h.low.size (fun j hj => by have := owns_ge h.own hj; omega)
  refine ⟨hbx, hlow.grown hs hlow.size (fun j hj => by cases hj; exact Nat.le_refl _), hbx.setl ov', own_kept ho hs ?_, hnil_row _ _ _ _, fun g _ e => by cases e⟩
  intro k hk e
  cases hk
  have := owns_ge ho e
  omega
theorem grown_then {r r' : Option Nat} {u'' : World} (h : u.grownBy u' r) (h' : u'.grownBy u'' r') (hr : r' = r ∨ ∃ k, r' = some k ∧ u.heap.size ≤ k) : u.grownBy u'' r := by
  refine ⟨h'.os.trans h.os, h'.tape.trans h.tape, h'.output.trans h.output, Nat.le_trans h.size h'.size, fun k hk hne => ?_⟩
  rw [h'.block k (Nat.lt_of_lt_of_le hk h.size) ?_]
  · exact h.block k hk hne
  · intro e
    rcases hr with hr | ⟨j, hr, hj⟩
    · exact hne (e.trans hr)
    · rw [hr] at e
      cases e
      omega
theorem grown_alloc {r : Option Nat} (h : u.grownBy u' r) (o : Obj) : u.grownBy (u'.alloc o) r :=
  ⟨h.os, h.tape, h.output, Nat.le_trans h.size (by simp), fun k hk hne => by rw [Below.heap_alloc _ _ _ (Nat.lt_of_lt_of_le hk h.size)]; exact h.block k hk hne⟩
theorem Hx.put5 {b : Nat} {h : Hk} {v : Value} (p : Hx u b h v) (z0 z1 z2 z3 z4 : Value) : (((((u.setCell ⟨b, 0, none⟩ z0).setCell ⟨b, 1, none⟩ z1).setCell ⟨b, 2, none⟩ z2).setCell ⟨b, 3, none⟩ z3).setCell ⟨b, 4, none⟩ z4).heap[b]? = some (.cells #[z0, z1, z2, z3, z4] 39 (0, 0)) := by
  have s1 := heap_setCell_same u b 0 _ _ z0 p
  have s2 := heap_setCell_same _ b 1 _ _ z1 s1
  have s3 := heap_setCell_same _ b 2 _ _ z2 s2
  have s4 := heap_setCell_same _ b 3 _ _ z3 s3
  exact heap_setCell_same _ b 4 _ _ z4 s4
theorem own_base {e : TypeId} {s B B' : Nat} {v : Value} {n : Nat} {xs : List Value} (ho : u.ownsRow B e s v n xs) (hB : B' ≤ B) : u.ownsRow B' e s v n xs := by
  refine ⟨ho.1, ?_⟩
  rcases ho.2 with q | ⟨b, cap, cur, rfl, q2, q3, q4⟩
  · exact .inl q
  · exact .inr ⟨b, cap, cur, rfl, by omega, q3, q4⟩
theorem Iv.none (h : Iv w q ov x av y u) : Iv w q ov x (.slice none 0 0) [] u := ⟨h.low, h.box, h.own, hnil_row _ _ _ _, fun g _ e => by cases e⟩
end
theorem mk_row (w : World) (m : Mk) : Holds (w.alloc (mkO m)) (.slice (some ⟨w.heap.size, 0, none⟩) 1 1) 1 (mkcells [m]) := new_holds w #[.int .u8 m.sg, .string ⟨m.tx.toArray⟩] 46 1 1 (by decide)

theorem exec_storeL {u : World} {b j : Nat} {v : Value} (hf : u.frozen? ⟨b, j, none⟩ = false) {o n c} (hc : u.cell? ⟨b, j, none⟩ = some (.slice o n c)) {o' n' c'} (hv : v = .slice o' n' c') {op : Oper} (x y : Operand) (ho : op.op = .store 37 x y) {ev : Operand → Value} (hx : ev x = .pointer (some ⟨b, j, none⟩)) (hy : ev y = v) :
    (execOp ev op).run Try.prog u = .ok .skip (u.setCell ⟨b, j, none⟩ v) := by
  subst hv
  simp only [execOp, ho, hx, hy]
  go_simp

set_option maxRecDepth 10000 in
set_option maxHeartbeats 8000000 in
theorem rhInvert_f (h : Hk) (v : Value) (w : World) (hv : HMk w v h.ls) (hl : h.ls.length ≤ 549755813888) (R : List Mk) (HR : Hid (invG [] h.ls = R)) : Calls Try.prog 22 #[hkV h v] w fun e w' => ∃ v', e = .returned (hkV ⟨h.B, h.BN, h.A, h.AN, R⟩ v') ∧ w'.ownsRow w.heap.size 46 2 v' R.length (mkcells R) ∧ Below w.heap.size w w' := by
  obtain ⟨A, AN, B, BN, ls⟩ := h
  dsimp only at hv hl HR ⊢
  obtain ⟨lo, lc, rfl⟩ := HMk.form hv
  have hx := Hx.new w ⟨A, AN, B, BN, ls⟩ (.slice lo ls.length lc)
  have hB1 : Below w.heap.size w (w.alloc (hkO ⟨A, AN, B, BN, ls⟩ (.slice lo ls.length lc))) := (Below.refl _ w).alloc (Nat.le_refl _) _
  have hBz : Below (w.alloc (hkO ⟨A, AN, B, BN, ls⟩ (.slice lo ls.length lc))).heap.size (w.alloc (hkO ⟨A, AN, B, BN, ls⟩ (.slice lo ls.length lc))) ((w.alloc (hkO ⟨A, AN, B, BN, ls⟩ (.slice lo ls.length lc))).alloc (hkO ⟨0, 0, 0, 0, []⟩ (.slice none 0 0))) := (Below.refl _ _).alloc (Nat.le_refl _) _
  have hx2 := hx.low hBz
  have hB2 := hB1.trans (hBz.mono hB1.size)
  have hv2 := HMk.keep hv hB2 (Nat.le_refl _)
  have hz2 : Hx ((w.alloc (hkO ⟨A, AN, B, BN, ls⟩ (.slice lo ls.length lc))).alloc (hkO ⟨0, 0, 0, 0, []⟩ (.slice none 0 0))) (w.heap.size + 1) ⟨0, 0, 0, 0, []⟩ (.slice none 0 0) := alloc_second w _ _
  obtain ⟨x0, x1, x2, x3, x4⟩ := hx2.cells
  have HSZ : Hid (((w.alloc (hkO ⟨A, AN, B, BN, ls⟩ (.slice lo ls.length lc))).alloc (hkO ⟨0, 0, 0, 0, []⟩ (.slice none 0 0))).heap.size = w.heap.size + 1 + 1) := (by show _ = _; simp)
  have hW0 : (w.alloc (hkO ⟨A, AN, B, BN, ls⟩ (.slice lo ls.length lc))).alloc (hkO ⟨0, 0, 0, 0, []⟩ (.slice none 0 0)) = (w.alloc (Obj.cells #[Value.int IntKind.i64 A, Value.int IntKind.i64 AN, Value.int IntKind.i64 B, Value.int IntKind.i64 BN, .slice lo ls.length lc] 39)).alloc (Obj.cells #[Value.int IntKind.i64 0, Value.int IntKind.i64 0, Value.int IntKind.i64 0, Value.int IntKind.i64 0, .slice none 0 0] 39) := rfl
  unfold hkV
  dsimp only at x0 x1 x2 x3 x4 ⊢
  clear hx hB1 hBz hv
  generalize (w.alloc (hkO ⟨A, AN, B, BN, ls⟩ (.slice lo ls.length lc))).alloc (hkO ⟨0, 0, 0, 0, []⟩ (.slice none 0 0)) = W at *
  have hW := hW0.symm
  clear hW0
  have hI : Iv W ⟨B, BN, A, AN, []⟩ (.slice none 0 0) [] (.slice none 0 0) [] (W.alloc (hkO ⟨B, BN, A, AN, []⟩ (.slice none 0 0))) :=
    ⟨(Below.refl _ W).alloc (Nat.le_refl _) _, Hx.new W _ _, hnil_row _ _ _ _, hnil_row _ _ _ _, fun g e => by cases e⟩
  go_enter Try.func22, Try.ntmps22
  go_wp2
  have hW1 : W.alloc (Obj.cells #[Value.int IntKind.i64 B, Value.int IntKind.i64 BN, Value.int IntKind.i64 A, Value.int IntKind.i64 AN, .slice none 0 0] 39) = W.alloc (hkO ⟨B, BN, A, AN, []⟩ (.slice none 0 0)) := rfl
  rw [hW1]
  clear hW1 hW x0 x1 x2 x3 x4
  generalize W.alloc (hkO ⟨B, BN, A, AN, []⟩ (.slice none 0 0)) = W1 at *
  go_loopw [4, 5] (fun av iv wr => ∃ (k : Nat) (ov : Value) (x y : List Mk), k ≤ ls.length ∧ iv = .int .i64 (k : Int) ∧ (∃ oo oc, ov = .slice oo x.length oc) ∧ (∃ ao ac, av = .slice ao y.length ac) ∧ x.length + y.length ≤ k ∧ Iv W ⟨B, BN, A, AN, []⟩ ov x av y wr ∧ Hid (x ++ invG y (ls.drop k) = R)) (fun _ iv _ => ls.length - (intOf iv).toNat)
  case atStart => exact ⟨0, _, [], [], Nat.zero_le _, by go_num, ⟨_, _, rfl⟩, ⟨_, _, rfl⟩, Nat.le_refl _, hI, HR⟩
  case round =>
    obtain ⟨k, ov, x, y, hk, rfl, ⟨oo, oc, rfl⟩, ⟨ao, ac, rfl⟩, hxy, hI1, HI⟩ := hrel
    clear hI HR
    obtain ⟨x0, x1, x2, x3, x4⟩ := (hx2.low hI1.low).cells
    obtain ⟨b0, b1, b2, b3, b4⟩ := hI1.box.cells
    by_cases hlt : k < ls.length
    · obtain ⟨b, off, rfl, hb, _⟩ := HMk.at hv2 (by omega)
      obtain ⟨m, hm⟩ : ∃ m, ls[k] = m := ⟨_, rfl⟩
      obtain ⟨c0, c1⟩ := Low.mk hI1.low hv2 k hlt hm
      have HI2 : Hid (x ++ (if m.sg = 43 then ⟨45, m.tx⟩ :: invG y (ls.drop (k + 1)) else if m.sg = 45 then invG (y ++ [⟨43, m.tx⟩]) (ls.drop (k + 1)) else y ++ m :: invG [] (ls.drop (k + 1))) = R) := (by
        show _ = _
        rw [← HI.out, List.drop_eq_getElem_cons hlt, hm]
        rfl)
      have i1 : 0 ≤ (k : Int) := by omega
      have i2 : (k : Int) < (ls.length : Int) := by omega
      have hsW := hI1.low.size
      have hmx := Mx.new wr m
      have hI2 := hI1.alloc (mkO m)
      have hBm : Below wr.heap.size wr (wr.alloc (mkO m)) := (Below.refl _ wr).alloc (Nat.le_refl _) _
      obtain ⟨m0, m1⟩ := hmx.cells
      obtain ⟨d0, d1, d2, d3, d4⟩ := hI2.box.cells
      have HSM : Hid ((wr.alloc (mkO m)).heap.size = wr.heap.size + 1) := (by show _ = _; simp)
      have hW2 : wr.alloc (Obj.cells #[Value.int IntKind.u8 m.sg, Value.string ⟨m.tx.toArray⟩] 46) = wr.alloc (mkO m) := rfl
      have hlts := hI1.own
      clear HI hm
      go_upto_region 7 with fail
      obtain ⟨sg, tx⟩ := m
      dsimp only at m0 m1 c0 c1 HI2 hW2
      generalize hwr1 : wr.alloc (mkO ⟨sg, tx⟩) = wr1 at *
      clear hW2
      by_cases h1 : sg = 43
      · subst h1
        have HI3 : Hid (x ++ [⟨45, tx⟩] ++ invG y (ls.drop (k + 1)) = R) := (by
          have h := HI2.out
          show _ = _
          rw [if_pos rfl] at h
          rw [← h]
          simp)
        have hI3 := hI2.alloc (mkO ⟨45, tx⟩)
        have hrow := mk_row wr1 ⟨45, tx⟩
        have hW3 : wr1.alloc (Obj.cells #[Value.int IntKind.u8 45, Value.string ⟨tx.toArray⟩] 46) = wr1.alloc (mkO ⟨45, tx⟩) := rfl
        have HS3 : Hid ((wr1.alloc (mkO ⟨45, tx⟩)).heap.size = wr1.heap.size + 1) := (by show _ = _; simp)
        have hs1 := hI2.low.size
        clear HI2
        go_wp2_with (at_builtin; refine wpList_append_w _ (by kernel_rfl) (.tmp 41) (.tmp 45) 37 46 (.agg #[.int .u8 0, .string ⟨#[]⟩]) 2 24 rfl Try.underlying37 infoMk rfl (by decide) (by decide) (W.heap.size + 1) _ _ _ rfl hI3.own _ 1 (mkcells [⟨45, tx⟩]) rfl hrow (mkcells_length _) (mkcells_one _) (by omega) (by have := HS3.out; have := HSM.out; omega) ?_)
        intro v3 u3 hown3 hg3 hb3
        rw [← mkcells_append] at hown3
        obtain ⟨o3, c3, rfl⟩ := (holds_of hown3).form
        obtain ⟨hbx3, hI4⟩ := hI3.grow (x' := x ++ [⟨45, tx⟩]) hg3 (by rw [List.length_append]; exact hown3) (by rw [HS3.out]; exact hb3)
        obtain ⟨f0, f1, f2, f3, f4⟩ := hbx3.cells
        have ff := hbx3.frozen 4
        clear hW3 hg3 hown3
        go_wp2
        exact ⟨⟨k + 1, _, x ++ [⟨45, tx⟩], y, by omega, by go_num, ⟨_, _, by rw [List.length_append]; rfl⟩, ⟨_, _, rfl⟩, by simp; omega, hI4, HI3⟩, by simp [intOf]; omega⟩
      · have e1 : (sg == 43) = false := by simpa using h1
        by_cases h2 : sg = 45
        · subst h2
          have HI3 : Hid (x ++ invG (y ++ [⟨43, tx⟩]) (ls.drop (k + 1)) = R) := (by
            have h := HI2.out
            show _ = _
            rw [if_neg (by decide), if_pos rfl] at h
            exact h)
          have hI3 := hI2.alloc (mkO ⟨43, tx⟩)
          have hrow := mk_row wr1 ⟨43, tx⟩
          have hW3 : wr1.alloc (Obj.cells #[Value.int IntKind.u8 43, Value.string ⟨tx.toArray⟩] 46) = wr1.alloc (mkO ⟨43, tx⟩) := rfl
          have HS3 : Hid ((wr1.alloc (mkO ⟨43, tx⟩)).heap.size = wr1.heap.size + 1) := (by show _ = _; simp)
          have hs1 := hI2.low.size
          clear HI2
          go_wp2_with (at_builtin; refine wpList_append_w _ (by kernel_rfl) (.tmp 50) (.tmp 54) 37 46 (.agg #[.int .u8 0, .string ⟨#[]⟩]) 2 24 rfl Try.underlying37 infoMk rfl (by decide) (by decide) (W.heap.size + 1) _ _ _ rfl hI3.add _ 1 (mkcells [⟨43, tx⟩]) rfl hrow (mkcells_length _) (mkcells_one _) (by omega) (by have := HS3.out; have := HSM.out; omega) ?_)
          intro v3 u3 hown3 hg3 hb3
          rw [← mkcells_append] at hown3
          obtain ⟨o3, c3, rfl⟩ := (holds_of hown3).form
          have hI4 := hI3.wait (y' := y ++ [⟨43, tx⟩]) hg3 (by rw [List.length_append]; exact hown3) (by rw [HS3.out]; exact hb3)
          clear hW3 hg3 hown3
          go_wp2
          exact ⟨⟨k + 1, _, x, y ++ [⟨43, tx⟩], by omega, by go_num, ⟨_, _, rfl⟩, ⟨_, _, by rw [List.length_append]; rfl⟩, by simp; omega, hI4, HI3⟩, by simp [intOf]; omega⟩
        · have e2 : (sg == 45) = false := by simpa using h2
          have HI3 : Hid (x ++ (y ++ [⟨sg, tx⟩]) ++ invG [] (ls.drop (k + 1)) = R) := (by
            have h := HI2.out
            show _ = _
            rw [if_neg h1, if_neg h2] at h
            rw [← h]
            simp)
          clear HI2
          go_upto_region 8 with fail
          have hsd := hI2.low.size
          have hsm := HSM.out
          have hdr : (wr1.drewN 1).heap.size = wr1.heap.size := rfl
          have hdr2 : ((wr1.drewN 1).alloc (mkO ⟨sg, tx⟩)).heap.size = wr1.heap.size + 1 := by simp
          obtain ⟨v3, u3, hr3, hown3, hg3, hb3⟩ := run_append_w (wr1.drewN 1) 37 46 37 (.agg #[.int .u8 0, .string ⟨#[]⟩]) 2 24 Try.underlying37 infoMk rfl (by decide) (by decide) (W.heap.size + 1) _ _ _ (hI2.own) _ y.length (mkcells y) (holds_of hI2.add) (mkcells_length _) (mkcells_one _) (by first | omega | (simp; omega)) (by first | omega | (simp; omega))
          rw [← mkcells_append] at hown3
          obtain ⟨v6, u6, hr6, hown6, hg6, hb6⟩ := run_append_w ((wr1.drewN 1).alloc (mkO ⟨sg, tx⟩)) 37 46 37 (.agg #[.int .u8 0, .string ⟨#[]⟩]) 2 24 Try.underlying37 infoMk rfl (by decide) (by decide) (W.heap.size + 1) _ _ _ (hI2.own.alloc (mkO ⟨sg, tx⟩)) _ y.length (mkcells y) (holds_of (hI2.add.alloc (mkO ⟨sg, tx⟩))) (mkcells_length _) (mkcells_one _) (by first | omega | (simp; omega)) (by first | omega | (simp; omega))
          rw [← mkcells_append] at hown6
          have hS3 : wr1.grownBy u3 (Value.slice oo x.length oc).ownBlock := grown_then (grown_drewN (World.grownBy.refl _ _) 1) hg3 (.inl rfl)
          have hS6 : wr1.grownBy u6 (Value.slice oo x.length oc).ownBlock := grown_then (grown_alloc (grown_drewN (World.grownBy.refl _ _) 1) (mkO ⟨sg, tx⟩)) hg6 (.inl rfl)
          have hz3 := hg3.size
          have hz6 := hg6.size
          rw [hdr] at hz3
          rw [hdr2] at hz6
          have hrb3 : v3.ownBlock = (Value.slice oo x.length oc).ownBlock ∨ ∃ j, v3.ownBlock = some j ∧ wr1.heap.size ≤ j := (by
            rcases hb3 with h | h
            · exact .inl h
            · exact .inr ⟨_, h, Nat.le_refl _⟩)
          have hrb6 : v6.ownBlock = (Value.slice oo x.length oc).ownBlock ∨ ∃ j, v6.ownBlock = some j ∧ wr1.heap.size ≤ j := (by
            rcases hb6 with h | h
            · exact .inl h
            · exact .inr ⟨_, h, by simp⟩)
          have hob : ∀ j, (Value.slice oo x.length oc).ownBlock = some j → j < wr.heap.size := fun j hj => own_lt hI1.own hj
          have hrow3 : Holds (u3.alloc (mkO ⟨sg, tx⟩)) (.slice (some ⟨u3.heap.size, 0, none⟩) 1 1) 1 (mkcells [⟨sg, tx⟩]) := mk_row u3 ⟨sg, tx⟩
          have hrow6 : Holds u6 (.slice (some ⟨(wr1.drewN 1).heap.size, 0, none⟩) 1 1) 1 (mkcells [⟨sg, tx⟩]) := (by
            have hd := mk_row (wr1.drewN 1) ⟨sg, tx⟩
            refine .inr ⟨⟨(wr1.drewN 1).heap.size, 0, none⟩, 1, rfl, Nat.le_refl _, fun j z hj => ?_⟩
            rcases hd with ⟨h, _, _⟩ | ⟨ad, c, e, _, hc⟩
            · cases h
            · cases e
              have h1 := hc j z hj
              rw [World.cell?_of_block (w := ((wr1.drewN 1).alloc (mkO ⟨sg, tx⟩))) (hg6.block _ (World.block_lt_of_cell? _ _ h1) (fun e => ?_))]
              · exact h1
              · rw [add_none] at e
                have h2 : wr1.heap.size < wr.heap.size := hob _ e.symm
                omega)
          have hmD : Mx (wr1.drewN 1) wr.heap.size ⟨sg, tx⟩ := hmx
          have hm3 : Mx u3 wr.heap.size ⟨sg, tx⟩ := (hS3.block _ hmx.lt (fun e => by have := hob _ e.symm; omega)).trans hmx
          have hbD : (wr1.drewN 1).cell? ⟨W.heap.size, 4, none⟩ = some (.slice oo x.length oc) := hI2.box.cells.2.2.2.2
          have hbA : ((wr1.drewN 1).alloc (mkO ⟨sg, tx⟩)).cell? ⟨W.heap.size, 4, none⟩ = some (.slice oo x.length oc) := ((hI2.drewN 1).alloc (mkO ⟨sg, tx⟩)).box.cells.2.2.2.2
          obtain ⟨v4, u4, hr4, hown4, hg4, hb4⟩ := run_append_w (u3.alloc (mkO ⟨sg, tx⟩)) 37 46 37 (.agg #[.int .u8 0, .string ⟨#[]⟩]) 2 24 Try.underlying37 infoMk rfl (by decide) (by decide) (W.heap.size + 1) _ _ _ (hown3.alloc (mkO ⟨sg, tx⟩)) _ 1 (mkcells [⟨sg, tx⟩]) (hrow3) (mkcells_length _) (mkcells_one _) (by first | omega | (simp; omega)) (by first | omega | (simp; omega))
          rw [← mkcells_append] at hown4
          obtain ⟨v7, u7, hr7, hown7, hg7, hb7⟩ := run_append_w u6 37 46 37 (.agg #[.int .u8 0, .string ⟨#[]⟩]) 2 24 Try.underlying37 infoMk rfl (by decide) (by decide) (W.heap.size + 1) _ _ _ (hown6) _ 1 (mkcells [⟨sg, tx⟩]) (hrow6) (mkcells_length _) (mkcells_one _) (by first | omega | (simp; omega)) (by first | omega | (simp; omega))
          rw [← mkcells_append] at hown7
          have hS4 : wr1.grownBy u4 (Value.slice oo x.length oc).ownBlock := grown_then (grown_alloc hS3 _) hg4 hrb3
          obtain ⟨p4, q4, hv4⟩ := (holds_of hown4).form
          subst hv4
          obtain ⟨hbx4, hI4⟩ := hI2.last (x' := x ++ y ++ [⟨sg, tx⟩]) hS4 (by simp only [List.length_append]; exact hown4)
          have hS7 : wr1.grownBy u7 (Value.slice oo x.length oc).ownBlock := grown_then hS6 hg7 hrb6
          obtain ⟨p7, q7, hv7⟩ := (holds_of hown7).form
          subst hv7
          obtain ⟨hbx7, hI7⟩ := hI2.last (x' := x ++ y ++ [⟨sg, tx⟩]) hS7 (by simp only [List.length_append]; exact hown7)
          clear hS3 hS6 hrb3 hrb6 hob hrow3 hrow6 hg3 hg6 hb3 hb6 hown3 hown6 hown4 hown7 hS4 hS7 hg4 hg7 hb4 hb7
          refine wp_region_noPanic ?_
          refine wp_region_held_drew (S := fun _ => True) (by kernel_rfl) trivial (fun hHeld => ?_)
          refine go_take 0 30 _ (.pointer (some ⟨W.heap.size, 4, none⟩)) rfl (by kernel_rfl) (by kernel_rfl) (by kernel_rfl) (by kernel_rfl) (fun _ _ _ h => h) (Or.inl ⟨by kernel_rfl, fun u hu => by kernel_rfl⟩) hHeld ?_
          simp only [Act.put, List.setIfInBounds_toArray, List.set_cons_zero, List.set_cons_succ]
          refine go_take 2 32 _ (.slice ao y.length ac) rfl (by kernel_rfl) (by kernel_rfl) (by kernel_rfl) (by kernel_rfl) (fun _ _ _ h => h) (Or.inl ⟨by kernel_rfl, fun u hu => by kernel_rfl⟩) hHeld ?_
          simp only [Act.put, List.setIfInBounds_toArray, List.set_cons_zero, List.set_cons_succ]
          refine go_two 1 31 _ 4 34 _ rfl (by kernel_rfl) rfl (by kernel_rfl) (by kernel_rfl) (by kernel_rfl) (by kernel_rfl) (.slice oo x.length oc) (wr1.drewN 1) (load_mks hbD (.tmp 30) (by kernel_rfl) (by kernel_rfl)) trivial (.agg #[.int .u8 sg, .string ⟨tx.toArray⟩]) (wr1.drewN 1) (load_mk hmD (.tmp 6) (by kernel_rfl) (by kernel_rfl)) trivial ?_ ?_
          · simp only [Act.put, List.setIfInBounds_toArray, List.set_cons_zero, List.set_cons_succ]
            refine go_two 3 33 _ 4 34 _ rfl (by kernel_rfl) rfl (by kernel_rfl) (by kernel_rfl) (by kernel_rfl) (by kernel_rfl) (v3) u3 (exec_app (.tmp 31) (.tmp 32) (by kernel_rfl) (by kernel_rfl) (by kernel_rfl) hr3) trivial (.agg #[.int .u8 sg, .string ⟨tx.toArray⟩]) (wr1.drewN 1) (load_mk hmD (.tmp 6) (by kernel_rfl) (by kernel_rfl)) trivial ?_ ?_
            · simp only [Act.put, List.setIfInBounds_toArray, List.set_cons_zero, List.set_cons_succ]
              refine go_val 4 34 _ rfl (by kernel_rfl) (by kernel_rfl) (by kernel_rfl) (.agg #[.int .u8 sg, .string ⟨tx.toArray⟩]) u3 (load_mk hm3 (.tmp 6) (by kernel_rfl) (by kernel_rfl)) trivial ?_
              simp only [Act.put, List.setIfInBounds_toArray, List.set_cons_zero, List.set_cons_succ]
              refine go_val 5 35 _ rfl (by kernel_rfl) (by kernel_rfl) (by kernel_rfl) (.slice (some ⟨u3.heap.size, 0, none⟩) 1 1) (u3.alloc (mkO ⟨sg, tx⟩)) (by kernel_rfl) trivial ?_
              simp only [Act.put, List.setIfInBounds_toArray, List.set_cons_zero, List.set_cons_succ]
              refine go_val 6 36 _ rfl (by kernel_rfl) (by kernel_rfl) (by kernel_rfl) _ u4 (exec_app (.tmp 33) (.tmp 35) (by kernel_rfl) (by kernel_rfl) (by kernel_rfl) hr4) trivial ?_
              simp only [Act.put, List.setIfInBounds_toArray, List.set_cons_zero, List.set_cons_succ]
              refine go_take 7 37 _ (.pointer (some ⟨W.heap.size, 4, none⟩)) rfl (by kernel_rfl) (by kernel_rfl) (by kernel_rfl) (by kernel_rfl) (fun _ _ _ h => h) (Or.inl ⟨by kernel_rfl, fun u hu => by kernel_rfl⟩) hHeld ?_
              simp only [Act.put, List.setIfInBounds_toArray, List.set_cons_zero, List.set_cons_succ]
              refine go_skip 8 _ rfl (by kernel_rfl) (by kernel_rfl) (by kernel_rfl) (u4.setCell ⟨W.heap.size, 4, none⟩ (.slice p4 (x.length + y.length + 1) q4)) (exec_storeL (v := .slice p4 (x.length + y.length + 1) q4) (o' := p4) (n' := x.length + y.length + 1) (c' := q4) (hbx4.frozen 4) hbx4.cells.2.2.2.2 rfl (.tmp 37) (.tmp 36) (by kernel_rfl) (by kernel_rfl) (by kernel_rfl)) trivial ?_
              refine wpAnyH_done (by kernel_rfl) ?_ _
              refine NoPanic.normal ?_
              go_wp2
              exact ⟨⟨k + 1, _, x ++ y ++ [⟨sg, tx⟩], [], by omega, by go_num, ⟨_, _, by simp only [List.length_append]; rfl⟩, ⟨_, _, rfl⟩, by simp; omega, hI4, by have h := HI3.out; show _ = _; rw [← h]; simp⟩, by simp [intOf]; omega⟩
            · simp only [Act.put, List.setIfInBounds_toArray, List.set_cons_zero, List.set_cons_succ]
              refine go_two 3 33 _ 5 35 _ rfl (by kernel_rfl) rfl (by kernel_rfl) (by kernel_rfl) (by kernel_rfl) (by kernel_rfl) (v3) u3 (exec_app (.tmp 31) (.tmp 32) (by kernel_rfl) (by kernel_rfl) (by kernel_rfl) hr3) trivial (.slice (some ⟨(wr1.drewN 1).heap.size, 0, none⟩) 1 1) ((wr1.drewN 1).alloc (mkO ⟨sg, tx⟩)) (by kernel_rfl) trivial ?_ ?_
              · simp only [Act.put, List.setIfInBounds_toArray, List.set_cons_zero, List.set_cons_succ]
                refine go_val 5 35 _ rfl (by kernel_rfl) (by kernel_rfl) (by kernel_rfl) (.slice (some ⟨u3.heap.size, 0, none⟩) 1 1) (u3.alloc (mkO ⟨sg, tx⟩)) (by kernel_rfl) trivial ?_
                simp only [Act.put, List.setIfInBounds_toArray, List.set_cons_zero, List.set_cons_succ]
                refine go_val 6 36 _ rfl (by kernel_rfl) (by kernel_rfl) (by kernel_rfl) _ u4 (exec_app (.tmp 33) (.tmp 35) (by kernel_rfl) (by kernel_rfl) (by kernel_rfl) hr4) trivial ?_
                simp only [Act.put, List.setIfInBounds_toArray, List.set_cons_zero, List.set_cons_succ]
                refine go_take 7 37 _ (.pointer (some ⟨W.heap.size, 4, none⟩)) rfl (by kernel_rfl) (by kernel_rfl) (by kernel_rfl) (by kernel_rfl) (fun _ _ _ h => h) (Or.inl ⟨by kernel_rfl, fun u hu => by kernel_rfl⟩) hHeld ?_
                simp only [Act.put, List.setIfInBounds_toArray, List.set_cons_zero, List.set_cons_succ]
                refine go_skip 8 _ rfl (by kernel_rfl) (by kernel_rfl) (by kernel_rfl) (u4.setCell ⟨W.heap.size, 4, none⟩ (.slice p4 (x.length + y.length + 1) q4)) (exec_storeL (v := .slice p4 (x.length + y.length + 1) q4) (o' := p4) (n' := x.length + y.length + 1) (c' := q4) (hbx4.frozen 4) hbx4.cells.2.2.2.2 rfl (.tmp 37) (.tmp 36) (by kernel_rfl) (by kernel_rfl) (by kernel_rfl)) trivial ?_
                refine wpAnyH_done (by kernel_rfl) ?_ _
                refine NoPanic.normal ?_
                go_wp2
                exact ⟨⟨k + 1, _, x ++ y ++ [⟨sg, tx⟩], [], by omega, by go_num, ⟨_, _, by simp only [List.length_append]; rfl⟩, ⟨_, _, rfl⟩, by simp; omega, hI4, by have h := HI3.out; show _ = _; rw [← h]; simp⟩, by simp [intOf]; omega⟩
              · simp only [Act.put, List.setIfInBounds_toArray, List.set_cons_zero, List.set_cons_succ]
                refine go_val 3 33 _ rfl (by kernel_rfl) (by kernel_rfl) (by kernel_rfl) (v6) u6 (exec_app (.tmp 31) (.tmp 32) (by kernel_rfl) (by kernel_rfl) (by kernel_rfl) hr6) trivial ?_
                simp only [Act.put, List.setIfInBounds_toArray, List.set_cons_zero, List.set_cons_succ]
                refine go_val 6 36 _ rfl (by kernel_rfl) (by kernel_rfl) (by kernel_rfl) _ u7 (exec_app (.tmp 33) (.tmp 35) (by kernel_rfl) (by kernel_rfl) (by kernel_rfl) hr7) trivial ?_
                simp only [Act.put, List.setIfInBounds_toArray, List.set_cons_zero, List.set_cons_succ]
                refine go_take 7 37 _ (.pointer (some ⟨W.heap.size, 4, none⟩)) rfl (by kernel_rfl) (by kernel_rfl) (by kernel_rfl) (by kernel_rfl) (fun _ _ _ h => h) (Or.inl ⟨by kernel_rfl, fun u hu => by kernel_rfl⟩) hHeld ?_
                simp only [Act.put, List.setIfInBounds_toArray, List.set_cons_zero, List.set_cons_succ]
                refine go_skip 8 _ rfl (by kernel_rfl) (by kernel_rfl) (by kernel_rfl) (u7.setCell ⟨W.heap.size, 4, none⟩ (.slice p7 (x.length + y.length + 1) q7)) (exec_storeL (v := .slice p7 (x.length + y.length + 1) q7) (o' := p7) (n' := x.length + y.length + 1) (c' := q7) (hbx7.frozen 4) hbx7.cells.2.2.2.2 rfl (.tmp 37) (.tmp 36) (by kernel_rfl) (by kernel_rfl) (by kernel_rfl)) trivial ?_
                refine wpAnyH_done (by kernel_rfl) ?_ _
                refine NoPanic.normal ?_
                go_wp2
                exact ⟨⟨k + 1, _, x ++ y ++ [⟨sg, tx⟩], [], by omega, by go_num, ⟨_, _, by simp only [List.length_append]; rfl⟩, ⟨_, _, rfl⟩, by simp; omega, hI7, by have h := HI3.out; show _ = _; rw [← h]; simp⟩, by simp [intOf]; omega⟩
          · simp only [Act.put, List.setIfInBounds_toArray, List.set_cons_zero, List.set_cons_succ]
            refine go_two 1 31 _ 5 35 _ rfl (by kernel_rfl) rfl (by kernel_rfl) (by kernel_rfl) (by kernel_rfl) (by kernel_rfl) (.slice oo x.length oc) (wr1.drewN 1) (load_mks hbD (.tmp 30) (by kernel_rfl) (by kernel_rfl)) trivial (.slice (some ⟨(wr1.drewN 1).heap.size, 0, none⟩) 1 1) ((wr1.drewN 1).alloc (mkO ⟨sg, tx⟩)) (by kernel_rfl) trivial ?_ ?_
            · simp only [Act.put, List.setIfInBounds_toArray, List.set_cons_zero, List.set_cons_succ]
              refine go_two 3 33 _ 5 35 _ rfl (by kernel_rfl) rfl (by kernel_rfl) (by kernel_rfl) (by kernel_rfl) (by kernel_rfl) (v3) u3 (exec_app (.tmp 31) (.tmp 32) (by kernel_rfl) (by kernel_rfl) (by kernel_rfl) hr3) trivial (.slice (some ⟨(wr1.drewN 1).heap.size, 0, none⟩) 1 1) ((wr1.drewN 1).alloc (mkO ⟨sg, tx⟩)) (by kernel_rfl) trivial ?_ ?_
              · simp only [Act.put, List.setIfInBounds_toArray, List.set_cons_zero, List.set_cons_succ]
                refine go_val 5 35 _ rfl (by kernel_rfl) (by kernel_rfl) (by kernel_rfl) (.slice (some ⟨u3.heap.size, 0, none⟩) 1 1) (u3.alloc (mkO ⟨sg, tx⟩)) (by kernel_rfl) trivial ?_
                simp only [Act.put, List.setIfInBounds_toArray, List.set_cons_zero, List.set_cons_succ]
                refine go_val 6 36 _ rfl (by kernel_rfl) (by kernel_rfl) (by kernel_rfl) _ u4 (exec_app (.tmp 33) (.tmp 35) (by kernel_rfl) (by kernel_rfl) (by kernel_rfl) hr4) trivial ?_
                simp only [Act.put, List.setIfInBounds_toArray, List.set_cons_zero, List.set_cons_succ]
                refine go_take 7 37 _ (.pointer (some ⟨W.heap.size, 4, none⟩)) rfl (by kernel_rfl) (by kernel_rfl) (by kernel_rfl) (by kernel_rfl) (fun _ _ _ h => h) (Or.inl ⟨by kernel_rfl, fun u hu => by kernel_rfl⟩) hHeld ?_
                simp only [Act.put, List.setIfInBounds_toArray, List.set_cons_zero, List.set_cons_succ]
                refine go_skip 8 _ rfl (by kernel_rfl) (by kernel_rfl) (by kernel_rfl) (u4.setCell ⟨W.heap.size, 4, none⟩ (.slice p4 (x.length + y.length + 1) q4)) (exec_storeL (v := .slice p4 (x.length + y.length + 1) q4) (o' := p4) (n' := x.length + y.length + 1) (c' := q4) (hbx4.frozen 4) hbx4.cells.2.2.2.2 rfl (.tmp 37) (.tmp 36) (by kernel_rfl) (by kernel_rfl) (by kernel_rfl)) trivial ?_
                refine wpAnyH_done (by kernel_rfl) ?_ _
                refine NoPanic.normal ?_
                go_wp2
                exact ⟨⟨k + 1, _, x ++ y ++ [⟨sg, tx⟩], [], by omega, by go_num, ⟨_, _, by simp only [List.length_append]; rfl⟩, ⟨_, _, rfl⟩, by simp; omega, hI4, by have h := HI3.out; show _ = _; rw [← h]; simp⟩, by simp [intOf]; omega⟩
              · simp only [Act.put, List.setIfInBounds_toArray, List.set_cons_zero, List.set_cons_succ]
                refine go_val 3 33 _ rfl (by kernel_rfl) (by kernel_rfl) (by kernel_rfl) (v6) u6 (exec_app (.tmp 31) (.tmp 32) (by kernel_rfl) (by kernel_rfl) (by kernel_rfl) hr6) trivial ?_
                simp only [Act.put, List.setIfInBounds_toArray, List.set_cons_zero, List.set_cons_succ]
                refine go_val 6 36 _ rfl (by kernel_rfl) (by kernel_rfl) (by kernel_rfl) _ u7 (exec_app (.tmp 33) (.tmp 35) (by kernel_rfl) (by kernel_rfl) (by kernel_rfl) hr7) trivial ?_
                simp only [Act.put, List.setIfInBounds_toArray, List.set_cons_zero, List.set_cons_succ]
                refine go_take 7 37 _ (.pointer (some ⟨W.heap.size, 4, none⟩)) rfl (by kernel_rfl) (by kernel_rfl) (by kernel_rfl) (by kernel_rfl) (fun _ _ _ h => h) (Or.inl ⟨by kernel_rfl, fun u hu => by kernel_rfl⟩) hHeld ?_
                simp only [Act.put, List.setIfInBounds_toArray, List.set_cons_zero, List.set_cons_succ]
                refine go_skip 8 _ rfl (by kernel_rfl) (by kernel_rfl) (by kernel_rfl) (u7.setCell ⟨W.heap.size, 4, none⟩ (.slice p7 (x.length + y.length + 1) q7)) (exec_storeL (v := .slice p7 (x.length + y.length + 1) q7) (o' := p7) (n' := x.length + y.length + 1) (c' := q7) (hbx7.frozen 4) hbx7.cells.2.2.2.2 rfl (.tmp 37) (.tmp 36) (by kernel_rfl) (by kernel_rfl) (by kernel_rfl)) trivial ?_
                refine wpAnyH_done (by kernel_rfl) ?_ _
                refine NoPanic.normal ?_
                go_wp2
                exact ⟨⟨k + 1, _, x ++ y ++ [⟨sg, tx⟩], [], by omega, by go_num, ⟨_, _, by simp only [List.length_append]; rfl⟩, ⟨_, _, rfl⟩, by simp; omega, hI7, by have h := HI3.out; show _ = _; rw [← h]; simp⟩, by simp [intOf]; omega⟩
            · simp only [Act.put, List.setIfInBounds_toArray, List.set_cons_zero, List.set_cons_succ]
              refine go_val 1 31 _ rfl (by kernel_rfl) (by kernel_rfl) (by kernel_rfl) (.slice oo x.length oc) ((wr1.drewN 1).alloc (mkO ⟨sg, tx⟩)) (load_mks hbA (.tmp 30) (by kernel_rfl) (by kernel_rfl)) trivial ?_
              simp only [Act.put, List.setIfInBounds_toArray, List.set_cons_zero, List.set_cons_succ]
              refine go_val 3 33 _ rfl (by kernel_rfl) (by kernel_rfl) (by kernel_rfl) (v6) u6 (exec_app (.tmp 31) (.tmp 32) (by kernel_rfl) (by kernel_rfl) (by kernel_rfl) hr6) trivial ?_
              simp only [Act.put, List.setIfInBounds_toArray, List.set_cons_zero, List.set_cons_succ]
              refine go_val 6 36 _ rfl (by kernel_rfl) (by kernel_rfl) (by kernel_rfl) _ u7 (exec_app (.tmp 33) (.tmp 35) (by kernel_rfl) (by kernel_rfl) (by kernel_rfl) hr7) trivial ?_
              simp only [Act.put, List.setIfInBounds_toArray, List.set_cons_zero, List.set_cons_succ]
              refine go_take 7 37 _ (.pointer (some ⟨W.heap.size, 4, none⟩)) rfl (by kernel_rfl) (by kernel_rfl) (by kernel_rfl) (by kernel_rfl) (fun _ _ _ h => h) (Or.inl ⟨by kernel_rfl, fun u hu => by kernel_rfl⟩) hHeld ?_
              simp only [Act.put, List.setIfInBounds_toArray, List.set_cons_zero, List.set_cons_succ]
              refine go_skip 8 _ rfl (by kernel_rfl) (by kernel_rfl) (by kernel_rfl) (u7.setCell ⟨W.heap.size, 4, none⟩ (.slice p7 (x.length + y.length + 1) q7)) (exec_storeL (v := .slice p7 (x.length + y.length + 1) q7) (o' := p7) (n' := x.length + y.length + 1) (c' := q7) (hbx7.frozen 4) hbx7.cells.2.2.2.2 rfl (.tmp 37) (.tmp 36) (by kernel_rfl) (by kernel_rfl) (by kernel_rfl)) trivial ?_
              refine wpAnyH_done (by kernel_rfl) ?_ _
              refine NoPanic.normal ?_
              go_wp2
              exact ⟨⟨k + 1, _, x ++ y ++ [⟨sg, tx⟩], [], by omega, by go_num, ⟨_, _, by simp only [List.length_append]; rfl⟩, ⟨_, _, rfl⟩, by simp; omega, hI7, by have h := HI3.out; show _ = _; rw [← h]; simp⟩, by simp [intOf]; omega⟩
    · have HI3 : Hid (x ++ y = R) := (by
        have h := HI.out
        rw [List.drop_of_length_le (by omega)] at h
        exact h)
      have hend : decide ((k : Int) < (ls.length : Int)) = false := decide_eq_false (by omega)
      have hsd := hI1.low.size
      clear HI
      go_wp2_with (at_builtin; refine wpList_append_w _ (by kernel_rfl) (.tmp 57) (.tmp 58) 37 46 (.agg #[.int .u8 0, .string ⟨#[]⟩]) 2 24 rfl Try.underlying37 infoMk rfl (by decide) (by decide) (W.heap.size + 1) _ _ _ rfl hI1.own _ y.length (mkcells y) rfl (holds_of hI1.add) (mkcells_length _) (mkcells_one _) (by omega) (by have := hI1.box.lt; omega) ?_)
      intro v3 u3 hown3 hg3 hb3
      rw [← mkcells_append] at hown3
      obtain ⟨o3, c3, rfl⟩ := (holds_of hown3).form
      obtain ⟨hbx3, hI4⟩ := hI1.last (x' := x ++ y) hg3 (by rw [List.length_append]; exact hown3)
      obtain ⟨f0, f1, f2, f3, f4⟩ := hbx3.cells
      have ff := hbx3.frozen 4
      have hz4 := hz2.low hI4.low
      obtain ⟨t0, t1, t2, t3, t4⟩ := hI4.box.cells
      obtain ⟨z0, z1, z2, z3, z4⟩ := hz4.cells
      have zf := hz4.frozen
      have zf0 := zf 0
      have zf1 := zf 1
      have zf2 := zf 2
      have zf3 := zf 3
      have zf4 := zf 4
      have hP := hz4.put5 (.int .i64 B) (.int .i64 BN) (.int .i64 A) (.int .i64 AN) (.slice o3 (x.length + y.length) c3)
      have hlw : Below w.heap.size w (u3.setCell ⟨W.heap.size, 4, none⟩ (.slice o3 (x.length + y.length) c3)) := hB2.trans (hI4.low.mono hB2.size)
      have hown5 := hI4.own
      have HR3 : Hid (x ++ y = R) := HI3
      clear zf hg3 hb3 hown3 f0 f1 f2 f3 x0 x1 x2 x3 x4 b0 b1 b2 b3 b4 HI3
      go_upto_region 15 with fail
      generalize u3.setCell ⟨W.heap.size, 4, none⟩ (.slice o3 (x.length + y.length) c3) = W4 at *
      go_wp2
      refine bodyPost_ret (v := hkV ⟨B, BN, A, AN, R⟩ (.slice o3 (x.length + y.length) c3)) (results_cell_row rfl _ _ (w.heap.size + 1) 39 #[.int .i64 B, .int .i64 BN, .int .i64 A, .int .i64 AN, .slice o3 (x.length + y.length) c3] (0, 0) _ rfl hP Try.underlying39 rfl (by kernel_rfl)) rfl ⟨_, rfl, ?_, ?_⟩
      · rw [← HR3.out]
        have hsw := HSZ.out
        have key : ∀ (u : World) (j : Nat) (z : Value), u.ownsRow w.heap.size 46 2 (.slice o3 (x.length + y.length) c3) (x ++ y).length (mkcells (x ++ y)) → (∀ g, (Value.slice o3 (x.length + y.length) c3).ownBlock = some g → w.heap.size + 1 < g) → (u.setCell ⟨w.heap.size + 1, j, none⟩ z).ownsRow w.heap.size 46 2 (.slice o3 (x.length + y.length) c3) (x ++ y).length (mkcells (x ++ y)) := fun u j z ho hg => own_kept ho (grown_set u _ j z) (fun k hk e => by cases hk; have := hg _ e; omega)
        have hgg : ∀ g, (Value.slice o3 (x.length + y.length) c3).ownBlock = some g → w.heap.size + 1 < g := fun g hg => by have := owns_ge hown5 hg; omega
        have h0 : W4.ownsRow w.heap.size 46 2 (.slice o3 (x.length + y.length) c3) (x ++ y).length (mkcells (x ++ y)) := own_base hown5 (by omega)
        exact key _ _ _ (key _ _ _ (key _ _ _ (key _ _ _ (key _ _ _ h0 hgg) hgg) hgg) hgg) hgg
      · exact ((((hlw.setCell (by simp) _).setCell (by simp) _).setCell (by simp) _).setCell (by simp) _).setCell (by simp) _
end Go.Proofs.Ythckcdpgjdbgcaa

/- The reference's count of layer 11, walked. -/
namespace Go.Proofs.Ythckcdpgjdbgcaa
open Go.RowKit

section
variable {u : World} {b : Nat} {A AN B BN : Int} {ls : List Mk} {v : Value}
theorem Hx.setA (q : Hx u b ⟨A, AN, B, BN, ls⟩ v) (z : Int) : Hx (u.setCell ⟨b, 0, none⟩ (.int .i64 z)) b ⟨z, AN, B, BN, ls⟩ v := heap_setCell_same u b 0 _ _ _ q
theorem Hx.setAN (q : Hx u b ⟨A, AN, B, BN, ls⟩ v) (z : Int) : Hx (u.setCell ⟨b, 1, none⟩ (.int .i64 z)) b ⟨A, z, B, BN, ls⟩ v := heap_setCell_same u b 1 _ _ _ q
theorem Hx.setB (q : Hx u b ⟨A, AN, B, BN, ls⟩ v) (z : Int) : Hx (u.setCell ⟨b, 2, none⟩ (.int .i64 z)) b ⟨A, AN, z, BN, ls⟩ v := heap_setCell_same u b 2 _ _ _ q
theorem Hx.setBN (q : Hx u b ⟨A, AN, B, BN, ls⟩ v) (z : Int) : Hx (u.setCell ⟨b, 3, none⟩ (.int .i64 z)) b ⟨A, AN, B, z, ls⟩ v := heap_setCell_same u b 3 _ _ _ q
theorem Hx.other (q : Hx u b ⟨A, AN, B, BN, ls⟩ v) {g : Nat} (hg : b ≠ g) (j : Nat) (z : Value) : Hx (u.setCell ⟨g, j, none⟩ z) b ⟨A, AN, B, BN, ls⟩ v := q.keep (grown_set u g j z) (fun e => hg (Option.some.inj e))
end

set_option maxRecDepth 10000 in
set_option maxHeartbeats 8000000 in
theorem rcount_f (A AN B BN : Int) (ls : List Mk) (v : Value) (a b : Int) (w : World) (hv : HMk w v ls) (hl : ls.length ≤ 1099511627776) (ha : -4611686018427387904 ≤ a ∧ a ≤ 4611686018427387904) (hb : -4611686018427387904 ≤ b ∧ b ≤ 4611686018427387904) (R : Hk) (HR : Hid (cntH a b ls = R)) : Calls Try.prog 45 #[hkV ⟨A, AN, B, BN, ls⟩ v, .int .i64 a, .int .i64 b] w fun e w' => e = .returned (hkV R v) ∧ Below w.heap.size w w' := by
  obtain ⟨lo, lc, rfl⟩ := HMk.form hv
  obtain ⟨no, hno⟩ : ∃ n, (pkL 43 ls).length = n := ⟨_, rfl⟩
  obtain ⟨nn, hnn⟩ : ∃ n, (pkL 45 ls).length = n := ⟨_, rfl⟩
  obtain ⟨RO, hO⟩ : ∃ RO, oldL ⟨A, AN, B, BN, ls⟩ = RO := ⟨_, rfl⟩
  have hOl : RO.length = no := by rw [← hO]; exact hno
  have HO : Hid (oldL ⟨A, AN, B, BN, ls⟩ = RO) := hO
  obtain ⟨RN, hN⟩ : ∃ RN, newL ⟨A, (no : Int), B, BN, ls⟩ = RN := ⟨_, rfl⟩
  have hNl : RN.length = nn := by rw [← hN]; exact hnn
  have HN : Hid (newL ⟨A, (no : Int), B, BN, ls⟩ = RN) := hN
  have HRR : Hid (R = ⟨if 0 < no then a + 1 else a, no, if 0 < nn then b + 1 else b, nn, ls⟩) := (by show _ = _; rw [← HR.out]; unfold cntH; rw [hno, hnn])
  have hnol : no ≤ 1099511627776 := by have := pkL_length 43 ls; omega
  have hnnl : nn ≤ 1099511627776 := by have := pkL_length 45 ls; omega
  clear HR hO hN hno hnn
  have hx := Hx.new w ⟨A, AN, B, BN, ls⟩ (.slice lo ls.length lc)
  have hB1 : Below w.heap.size w (w.alloc (hkO ⟨A, AN, B, BN, ls⟩ (.slice lo ls.length lc))) := (Below.refl _ w).alloc (Nat.le_refl _) _
  have hBz : Below (w.alloc (hkO ⟨A, AN, B, BN, ls⟩ (.slice lo ls.length lc))).heap.size (w.alloc (hkO ⟨A, AN, B, BN, ls⟩ (.slice lo ls.length lc))) ((w.alloc (hkO ⟨A, AN, B, BN, ls⟩ (.slice lo ls.length lc))).alloc (hkO ⟨0, 0, 0, 0, []⟩ (.slice none 0 0))) := (Below.refl _ _).alloc (Nat.le_refl _) _
  have hx2 := hx.low hBz
  have hB2 := hB1.trans (hBz.mono hB1.size)
  have hv2 := HMk.keep hv hB2 (Nat.le_refl _)
  have hz2 : Hx ((w.alloc (hkO ⟨A, AN, B, BN, ls⟩ (.slice lo ls.length lc))).alloc (hkO ⟨0, 0, 0, 0, []⟩ (.slice none 0 0))) (w.heap.size + 1) ⟨0, 0, 0, 0, []⟩ (.slice none 0 0) := alloc_second w _ _
  obtain ⟨x0, x1, x2, x3, x4⟩ := hx2.cells
  have hW0 : (w.alloc (hkO ⟨A, AN, B, BN, ls⟩ (.slice lo ls.length lc))).alloc (hkO ⟨0, 0, 0, 0, []⟩ (.slice none 0 0)) = (w.alloc (Obj.cells #[Value.int IntKind.i64 A, Value.int IntKind.i64 AN, Value.int IntKind.i64 B, Value.int IntKind.i64 BN, .slice lo ls.length lc] 39)).alloc (Obj.cells #[Value.int IntKind.i64 0, Value.int IntKind.i64 0, Value.int IntKind.i64 0, Value.int IntKind.i64 0, .slice none 0 0] 39) := rfl
  have e : hkV ⟨A, AN, B, BN, ls⟩ (.slice lo ls.length lc) = .agg #[.int .i64 A, .int .i64 AN, .int .i64 B, .int .i64 BN, .slice lo ls.length lc] := rfl
  rw [e]
  dsimp only at x0 x1 x2 x3 x4 ⊢
  clear hx hB1 hBz e
  generalize (w.alloc (hkO ⟨A, AN, B, BN, ls⟩ (.slice lo ls.length lc))).alloc (hkO ⟨0, 0, 0, 0, []⟩ (.slice none 0 0)) = W at *
  have hW := hW0.symm
  clear hW0
  go_enter Try.func45, Try.ntmps45
  go_wp2_with fail
  clear hW
  refine (rOld_f ⟨A, AN, B, BN, ls⟩ _ W hv2 hl RO HO).mono ?_
  rintro e W1 ⟨v1, rfl, hv1, hBo⟩
  obtain ⟨o1, c1, rfl⟩ := Holds.form hv1
  rw [hOl]
  have hx3 := hx2.low hBo
  have hz3 := hz2.low hBo
  have hv3 := HMk.keep hv2 hBo (Nat.le_refl _)
  have hB3 := hB2.trans (hBo.mono hB2.size)
  obtain ⟨y0, y1, y2, y3, y4⟩ := hx3.cells
  have fr := hx3.frozen
  have fr1 := fr 1
  have hx4 := hx3.setAN (no : Int)
  have hz4 := hz3.other (by omega : w.heap.size + 1 ≠ w.heap.size) 1 (.int .i64 (no : Int))
  have hB4 : Below w.heap.size w (W1.setCell ⟨w.heap.size, 1, none⟩ (.int .i64 (no : Int))) := hB3.setCell (Nat.le_refl _) _
  have hv4 : HMk (W1.setCell ⟨w.heap.size, 1, none⟩ (.int .i64 (no : Int))) (.slice lo ls.length lc) ls := HMk.keep hv hB4 (Nat.le_refl _)
  obtain ⟨s0, s1, s2, s3, s4⟩ := hx4.cells
  dsimp only at y0 y1 y2 y3 y4 s0 s1 s2 s3 s4
  clear hx3 hz3 hv3 fr hx2 hz2 hv1 hv2 hBo x0 x1 x2 x3 x4 hOl HO
  go_wp2_with fail
  generalize W1.setCell ⟨w.heap.size, 1, none⟩ (.int .i64 (no : Int)) = W2 at *
  clear y0 y1 y2 y3 y4 fr1
  refine (rNew_f ⟨A, (no : Int), B, BN, ls⟩ _ W2 hv4 hl RN HN).mono ?_
  rintro e W3 ⟨v3, rfl, hv3, hBn⟩
  obtain ⟨o3, c3, rfl⟩ := Holds.form hv3
  rw [hNl]
  have hx5 := hx4.low hBn
  have hz5 := hz4.low hBn
  have hB5 := hB4.trans (hBn.mono hB4.size)
  obtain ⟨y0, y1, y2, y3, y4⟩ := hx5.cells
  have fr3 := hx5.frozen 3
  have hx6 := hx5.setBN (nn : Int)
  have hz6 := hz5.other (by omega : w.heap.size + 1 ≠ w.heap.size) 3 (.int .i64 (nn : Int))
  have hB6 : Below w.heap.size w (W3.setCell ⟨w.heap.size, 3, none⟩ (.int .i64 (nn : Int))) := hB5.setCell (Nat.le_refl _) _
  dsimp only at y0 y1 y2 y3 y4
  clear hx5 hz5 hv3 hx4 hz4 hv4 hBn s0 s1 s2 s3 s4 hNl HN hB5 hB4
  go_upto_region 3 with fail
  generalize W3.setCell ⟨w.heap.size, 3, none⟩ (.int .i64 (nn : Int)) = W4 at *
  clear y0 y1 y2 y3 y4 fr3
  obtain ⟨y0, y1, y2, y3, y4⟩ := hx6.cells
  have fr0 := hx6.frozen 0
  have hx7 := hx6.setA a
  have hz7 := hz6.other (by omega : w.heap.size + 1 ≠ w.heap.size) 0 (.int .i64 a)
  have hB7 : Below w.heap.size w (W4.setCell ⟨w.heap.size, 0, none⟩ (.int .i64 a)) := hB6.setCell (Nat.le_refl _) _
  dsimp only at y0 y1 y2 y3 y4
  clear hx6 hz6 hB6
  go_upto_region 4 with fail
  generalize W4.setCell ⟨w.heap.size, 0, none⟩ (.int .i64 a) = W5 at *
  clear y0 y1 y2 y3 y4 fr0
  obtain ⟨y0, y1, y2, y3, y4⟩ := hx7.cells
  have fr2 := hx7.frozen 2
  have hx8 := hx7.setB b
  have hz8 := hz7.other (by omega : w.heap.size + 1 ≠ w.heap.size) 2 (.int .i64 b)
  have hB8 : Below w.heap.size w (W5.setCell ⟨w.heap.size, 2, none⟩ (.int .i64 b)) := hB7.setCell (Nat.le_refl _) _
  dsimp only at y0 y1 y2 y3 y4
  clear hx7 hz7 hB7
  go_upto_region 5 with fail
  generalize W5.setCell ⟨w.heap.size, 2, none⟩ (.int .i64 b) = W6 at *
  clear y0 y1 y2 y3 y4 fr2
  by_cases ho : 0 < no
  · have ho1 : (0 : Int) < (no : Int) := by omega
    have hx9 := hx8.setA (a + 1)
    have hz9 := hz8.other (by omega : w.heap.size + 1 ≠ w.heap.size) 0 (.int .i64 (a + 1))
    have hB9 : Below w.heap.size w (W6.setCell ⟨w.heap.size, 0, none⟩ (.int .i64 (a + 1))) := hB8.setCell (Nat.le_refl _) _
    obtain ⟨y0, y1, y2, y3, y4⟩ := hx8.cells
    have fr0 := hx8.frozen 0
    dsimp only at y0 y1 y2 y3 y4
    go_upto_region 7 with fail
    generalize W6.setCell ⟨w.heap.size, 0, none⟩ (.int .i64 (a + 1)) = W7 at *
    clear y0 y1 y2 y3 y4 fr0
    by_cases hn : 0 < nn
    · have hn1 : (0 : Int) < (nn : Int) := by omega
      obtain ⟨r0, r1, r2, r3, r4⟩ := hx9.cells
      have rf2 := hx9.frozen 2
      have hxF := hx9.setB (b + 1)
      have hzF := hz9.other (by omega : w.heap.size + 1 ≠ w.heap.size) 2 (.int .i64 (b + 1))
      have hBF : Below w.heap.size w (W7.setCell ⟨w.heap.size, 2, none⟩ (.int .i64 (b + 1))) := hB9.setCell (Nat.le_refl _) _
      dsimp only at r0 r1 r2 r3 r4
      go_upto_region 9 with fail
      generalize W7.setCell ⟨w.heap.size, 2, none⟩ (.int .i64 (b + 1)) = WF at *
      clear r0 r1 r2 r3 r4 rf2
      obtain ⟨t0, t1, t2, t3, t4⟩ := hxF.cells
      obtain ⟨z0, z1, z2, z3, z4⟩ := hzF.cells
      have zf0 := hzF.frozen 0
      have zf1 := hzF.frozen 1
      have zf2 := hzF.frozen 2
      have zf3 := hzF.frozen 3
      have zf4 := hzF.frozen 4
      have hP := hzF.put5 (.int .i64 (a + 1)) (.int .i64 (no : Int)) (.int .i64 (b + 1)) (.int .i64 (nn : Int)) (.slice lo ls.length lc)
      dsimp only at t0 t1 t2 t3 t4 z0 z1 z2 z3 z4
      go_wp2
      refine bodyPost_ret (v := .agg #[.int .i64 (a + 1), .int .i64 (no : Int), .int .i64 (b + 1), .int .i64 (nn : Int), .slice lo ls.length lc]) (results_cell_row rfl _ _ (w.heap.size + 1) 39 #[.int .i64 (a + 1), .int .i64 (no : Int), .int .i64 (b + 1), .int .i64 (nn : Int), .slice lo ls.length lc] (0, 0) _ rfl hP Try.underlying39 rfl (by kernel_rfl)) rfl ⟨?_, ?_⟩
      · rw [HRR.out]
        unfold hkV
        simp only [if_pos ho, if_pos hn]
      · exact ((((hBF.setCell (by simp) _).setCell (by simp) _).setCell (by simp) _).setCell (by simp) _).setCell (by simp) _
    · have hn1 : decide ((0 : Int) < (nn : Int)) = false := decide_eq_false (by omega)
      have hn2 : ¬ (0 : Int) < (nn : Int) := by omega
      obtain ⟨r0, r1, r2, r3, r4⟩ := hx9.cells
      have hxF := hx9
      have hzF := hz9
      have hBF := hB9
      dsimp only at r0 r1 r2 r3 r4
      go_upto_region 9 with fail
      clear r0 r1 r2 r3 r4
      obtain ⟨t0, t1, t2, t3, t4⟩ := hxF.cells
      obtain ⟨z0, z1, z2, z3, z4⟩ := hzF.cells
      have zf0 := hzF.frozen 0
      have zf1 := hzF.frozen 1
      have zf2 := hzF.frozen 2
      have zf3 := hzF.frozen 3
      have zf4 := hzF.frozen 4
      have hP := hzF.put5 (.int .i64 (a + 1)) (.int .i64 (no : Int)) (.int .i64 (b)) (.int .i64 (nn : Int)) (.slice lo ls.length lc)
      dsimp only at t0 t1 t2 t3 t4 z0 z1 z2 z3 z4
      go_wp2
      refine bodyPost_ret (v := .agg #[.int .i64 (a + 1), .int .i64 (no : Int), .int .i64 (b), .int .i64 (nn : Int), .slice lo ls.length lc]) (results_cell_row rfl _ _ (w.heap.size + 1) 39 #[.int .i64 (a + 1), .int .i64 (no : Int), .int .i64 (b), .int .i64 (nn : Int), .slice lo ls.length lc] (0, 0) _ rfl hP Try.underlying39 rfl (by kernel_rfl)) rfl ⟨?_, ?_⟩
      · rw [HRR.out]
        unfold hkV
        simp only [if_pos ho, if_neg hn]
      · exact ((((hBF.setCell (by simp) _).setCell (by simp) _).setCell (by simp) _).setCell (by simp) _).setCell (by simp) _
  · have ho1 : decide ((0 : Int) < (no : Int)) = false := decide_eq_false (by omega)
    have ho2 : ¬ (0 : Int) < (no : Int) := by omega
    obtain ⟨y0, y1, y2, y3, y4⟩ := hx8.cells
    dsimp only at y0 y1 y2 y3 y4
    go_upto_region 7 with fail
    clear y0 y1 y2 y3 y4
    by_cases hn : 0 < nn
    · have hn1 : (0 : Int) < (nn : Int) := by omega
      obtain ⟨r0, r1, r2, r3, r4⟩ := hx8.cells
      have rf2 := hx8.frozen 2
      have hxF := hx8.setB (b + 1)
      have hzF := hz8.other (by omega : w.heap.size + 1 ≠ w.heap.size) 2 (.int .i64 (b + 1))
      have hBF : Below w.heap.size w (W6.setCell ⟨w.heap.size, 2, none⟩ (.int .i64 (b + 1))) := hB8.setCell (Nat.le_refl _) _
      dsimp only at r0 r1 r2 r3 r4
      go_upto_region 9 with fail
      generalize W6.setCell ⟨w.heap.size, 2, none⟩ (.int .i64 (b + 1)) = WF at *
      clear r0 r1 r2 r3 r4 rf2
      obtain ⟨t0, t1, t2, t3, t4⟩ := hxF.cells
      obtain ⟨z0, z1, z2, z3, z4⟩ := hzF.cells
      have zf0 := hzF.frozen 0
      have zf1 := hzF.frozen 1
      have zf2 := hzF.frozen 2
      have zf3 := hzF.frozen 3
      have zf4 := hzF.frozen 4
      have hP := hzF.put5 (.int .i64 (a)) (.int .i64 (no : Int)) (.int .i64 (b + 1)) (.int .i64 (nn : Int)) (.slice lo ls.length lc)
      dsimp only at t0 t1 t2 t3 t4 z0 z1 z2 z3 z4
      go_wp2
      refine bodyPost_ret (v := .agg #[.int .i64 (a), .int .i64 (no : Int), .int .i64 (b + 1), .int .i64 (nn : Int), .slice lo ls.length lc]) (results_cell_row rfl _ _ (w.heap.size + 1) 39 #[.int .i64 (a), .int .i64 (no : Int), .int .i64 (b + 1), .int .i64 (nn : Int), .slice lo ls.length lc] (0, 0) _ rfl hP Try.underlying39 rfl (by kernel_rfl)) rfl ⟨?_, ?_⟩
      · rw [HRR.out]
        unfold hkV
        simp only [if_neg ho, if_pos hn]
      · exact ((((hBF.setCell (by simp) _).setCell (by simp) _).setCell (by simp) _).setCell (by simp) _).setCell (by simp) _
    · have hn1 : decide ((0 : Int) < (nn : Int)) = false := decide_eq_false (by omega)
      have hn2 : ¬ (0 : Int) < (nn : Int) := by omega
      obtain ⟨r0, r1, r2, r3, r4⟩ := hx8.cells
      have hxF := hx8
      have hzF := hz8
      have hBF := hB8
      dsimp only at r0 r1 r2 r3 r4
      go_upto_region 9 with fail
      clear r0 r1 r2 r3 r4
      obtain ⟨t0, t1, t2, t3, t4⟩ := hxF.cells
      obtain ⟨z0, z1, z2, z3, z4⟩ := hzF.cells
      have zf0 := hzF.frozen 0
      have zf1 := hzF.frozen 1
      have zf2 := hzF.frozen 2
      have zf3 := hzF.frozen 3
      have zf4 := hzF.frozen 4
      have hP := hzF.put5 (.int .i64 (a)) (.int .i64 (no : Int)) (.int .i64 (b)) (.int .i64 (nn : Int)) (.slice lo ls.length lc)
      dsimp only at t0 t1 t2 t3 t4 z0 z1 z2 z3 z4
      go_wp2
      refine bodyPost_ret (v := .agg #[.int .i64 (a), .int .i64 (no : Int), .int .i64 (b), .int .i64 (nn : Int), .slice lo ls.length lc]) (results_cell_row rfl _ _ (w.heap.size + 1) 39 #[.int .i64 (a), .int .i64 (no : Int), .int .i64 (b), .int .i64 (nn : Int), .slice lo ls.length lc] (0, 0) _ rfl hP Try.underlying39 rfl (by kernel_rfl)) rfl ⟨?_, ?_⟩
      · rw [HRR.out]
        unfold hkV
        simp only [if_neg ho, if_neg hn]
      · exact ((((hBF.setCell (by simp) _).setCell (by simp) _).setCell (by simp) _).setCell (by simp) _).setCell (by simp) _
end Go.Proofs.Ythckcdpgjdbgcaa

/- Hunks gone back: whose lines are whose, going back twice; when lines are as they must be; plain mathematics. -/
namespace Go.Proofs.Ythckcdpgjdbgcaa

theorem pick_mks_same (no : Int) (hno : no = 43 ∨ no = 45) (x : List (List UInt8)) : pkL no (mks 32 x) = x := by
  induction x with
  | nil => rfl
  | cons t x ih =>
    show pkL no (⟨32, t⟩ :: mks 32 x) = _
    simp only [pkL, ih]
    rw [if_pos ⟨by omega, by decide⟩]
theorem pick_mks_in (no s : Int) (hs : no ≠ s) (ho : okS s = true) (x : List (List UInt8)) : pkL no (mks s x) = x := by
  induction x with
  | nil => rfl
  | cons t x ih =>
    show pkL no (⟨s, t⟩ :: mks s x) = _
    simp only [pkL, ih]
    rw [if_pos ⟨by omega, ho⟩]
theorem pick_mks_out (s : Int) (x : List (List UInt8)) : pkL s (mks s x) = [] := by
  induction x with
  | nil => rfl
  | cons t x ih =>
    show pkL s (⟨s, t⟩ :: mks s x) = _
    simp only [pkL, ih]
    simp
/-- all of one sign -/
def AllS (s : Int) (x : List Mk) : Prop := ∀ m ∈ x, m.sg = s
theorem AllS.nil (s : Int) : AllS s [] := fun _ h => by cases h
theorem AllS.snoc {s : Int} {x : List Mk} (h : AllS s x) (t : List UInt8) : AllS s (x ++ [⟨s, t⟩]) := by
  intro m hm
  simp at hm
  rcases hm with hm | rfl
  · exact h m hm
  · rfl
theorem pick_out {s : Int} {x : List Mk} (h : AllS s x) : pkL s x = [] := by
  induction x with
  | nil => rfl
  | cons m x ih =>
    simp only [pkL]
    rw [if_neg (by simp [h m (by simp)])]
    exact ih fun q hq => h q (by simp [hq])

/-- the old lines of a hunk that goes back are the new ones -/
theorem inv_old (l : List Mk) : ∀ x, AllS 43 x → pkL 43 (invG x l) = pkL 45 l := by
  induction l with
  | nil => intro x hx; simp only [invG, pkL]; exact pick_out hx
  | cons m l ih =>
    intro x hx
    simp only [invG]
    by_cases h1 : m.sg = 43
    · rw [if_pos h1]
      simp only [pkL, ih x hx]
      rw [if_pos ⟨by decide, by decide⟩, if_pos ⟨by omega, by rw [h1]; decide⟩]
    · rw [if_neg h1]
      by_cases h2 : m.sg = 45
      · rw [if_pos h2, ih _ (hx.snoc _)]
        simp only [pkL]
        rw [if_neg (by simp [h2])]
      · rw [if_neg h2, pkL_append, pick_out hx]
        simp only [pkL, ih [] (AllS.nil _), List.nil_append]
        by_cases ho : okS m.sg = true
        · rw [if_pos ⟨h1, ho⟩, if_pos ⟨h2, ho⟩]
        · rw [if_neg (fun h => ho h.2), if_neg (fun h => ho h.2)]
theorem inv_new (l : List Mk) : ∀ x, AllS 43 x → pkL 45 (invG x l) = pkL 45 x ++ pkL 43 l := by
  induction l with
  | nil => intro x hx; simp [invG, pkL]
  | cons m l ih =>
    intro x hx
    simp only [invG]
    by_cases h1 : m.sg = 43
    · rw [if_pos h1]
      simp only [pkL, ih x hx]
      rw [if_neg (by simp), if_neg (by simp [h1])]
    · rw [if_neg h1]
      by_cases h2 : m.sg = 45
      · rw [if_pos h2, ih _ (hx.snoc _), pkL_append]
        simp only [pkL]
        rw [if_pos ⟨by decide, by decide⟩, if_pos ⟨h1, by rw [h2]; decide⟩]
        simp
      · rw [if_neg h2, pkL_append]
        simp only [pkL, ih [] (AllS.nil _), List.nil_append]
        by_cases ho : okS m.sg = true
        · rw [if_pos ⟨h2, ho⟩, if_pos ⟨h1, ho⟩]
        · rw [if_neg (fun h => ho h.2), if_neg (fun h => ho h.2)]
theorem invH_old (h : Hk) : oldL (invH h) = newL h := inv_old h.ls [] (AllS.nil _)
theorem invH_new (h : Hk) : newL (invH h) = oldL h := inv_new h.ls [] (AllS.nil _)

/-- in each piece the lines that are taken out stand first; s: one that is put in stands ahead -/
def Nf : Bool → List Mk → Prop
  | _, [] => True
  | s, m :: l => if m.sg = 45 then s = false ∧ Nf false l else if m.sg = 43 then Nf true l else Nf false l
theorem nf_added {x : List Mk} (hx : AllS 43 x) (t : List Mk) (ht : ∀ s, Nf s t) : ∀ s, Nf s (x ++ t) := by
  induction x with
  | nil => exact ht
  | cons m x ih =>
    intro s
    have hm := hx m (by simp)
    simp only [List.cons_append, Nf]
    rw [if_neg (by omega), if_pos hm]
    exact ih (fun q hq => hx q (by simp [hq])) _
theorem nf_inv (l : List Mk) : ∀ x, AllS 43 x → Nf false (invG x l) := by
  induction l with
  | nil =>
    intro x hx
    have := nf_added hx [] (fun s => by simp [Nf]) false
    simpa [invG] using this
  | cons m l ih =>
    intro x hx
    simp only [invG]
    by_cases h1 : m.sg = 43
    · rw [if_pos h1]
      simp only [Nf]
      simp only [if_true, true_and]
      exact ih x hx
    · rw [if_neg h1]
      by_cases h2 : m.sg = 45
      · rw [if_pos h2]
        exact ih _ (hx.snoc _)
      · rw [if_neg h2]
        refine nf_added hx _ (fun s => ?_) false
        simp only [Nf]
        rw [if_neg h2, if_neg h1]
        exact ih [] (AllS.nil _)
/-- signs turned -/
def tu (s : Int) (m : Mk) : Mk := ⟨s, m.tx⟩
theorem inv_rem {R : List Mk} (hR : AllS 45 R) : ∀ (x t : List Mk), invG x (R ++ t) = invG (x ++ R.map (tu 43)) t := by
  induction R with
  | nil => intro x t; simp
  | cons m R ih =>
    intro x t
    have hm := hR m (by simp)
    simp only [List.cons_append, invG]
    rw [if_neg (by omega), if_pos hm, ih fun q hq => hR q (by simp [hq])]
    simp [tu]
theorem inv_add {A : List Mk} (hA : AllS 43 A) : ∀ (x t : List Mk), invG x (A ++ t) = A.map (tu 45) ++ invG x t := by
  induction A with
  | nil => intro x t; simp
  | cons m A ih =>
    intro x t
    have hm := hA m (by simp)
    simp only [List.cons_append, invG]
    rw [if_pos hm, ih fun q hq => hA q (by simp [hq])]
    simp [tu]
theorem tu_back {s : Int} {X : List Mk} (h : AllS s X) (s' : Int) : (X.map (tu s')).map (tu s) = X := by
  induction X with
  | nil => rfl
  | cons m X ih =>
    have hm := h m (by simp)
    simp only [List.map_cons]
    rw [ih fun q hq => h q (by simp [hq])]
    simp [tu, ← hm]
theorem allS_tu (s : Int) (X : List Mk) : AllS s (X.map (tu s)) := by
  intro m hm
  simp at hm
  obtain ⟨q, _, rfl⟩ := hm
  rfl
theorem nf_true {l : List Mk} (h : Nf true l) : ∃ A t, l = A ++ t ∧ AllS 43 A ∧ (t = [] ∨ ∃ m r, t = m :: r ∧ m.sg ≠ 43 ∧ m.sg ≠ 45 ∧ Nf false r) := by
  induction l with
  | nil => exact ⟨[], [], rfl, AllS.nil _, .inl rfl⟩
  | cons m l ih =>
    simp only [Nf] at h
    by_cases h2 : m.sg = 45
    · rw [if_pos h2] at h
      exact absurd h.1 (by simp)
    · rw [if_neg h2] at h
      by_cases h1 : m.sg = 43
      · rw [if_pos h1] at h
        obtain ⟨A, t, rfl, hA, ht⟩ := ih h
        refine ⟨m :: A, t, rfl, ?_, ht⟩
        intro q hq
        simp at hq
        rcases hq with rfl | hq
        · exact h1
        · exact hA q hq
      · rw [if_neg h1] at h
        exact ⟨[], m :: l, rfl, AllS.nil _, .inr ⟨m, l, rfl, h1, h2, h⟩⟩
theorem nf_false {l : List Mk} (h : Nf false l) : ∃ R A t, l = R ++ (A ++ t) ∧ AllS 45 R ∧ AllS 43 A ∧ (t = [] ∨ ∃ m r, t = m :: r ∧ m.sg ≠ 43 ∧ m.sg ≠ 45 ∧ Nf false r) := by
  induction l with
  | nil => exact ⟨[], [], [], rfl, AllS.nil _, AllS.nil _, .inl rfl⟩
  | cons m l ih =>
    simp only [Nf] at h
    by_cases h2 : m.sg = 45
    · rw [if_pos h2] at h
      obtain ⟨R, A, t, rfl, hR, hA, ht⟩ := ih h.2
      refine ⟨m :: R, A, t, rfl, ?_, hA, ht⟩
      intro q hq
      simp at hq
      rcases hq with rfl | hq
      · exact h2
      · exact hR q hq
    · rw [if_neg h2] at h
      by_cases h1 : m.sg = 43
      · rw [if_pos h1] at h
        obtain ⟨A, t, rfl, hA, ht⟩ := nf_true h
        refine ⟨[], m :: A, t, rfl, AllS.nil _, ?_, ht⟩
        intro q hq
        simp at hq
        rcases hq with rfl | hq
        · exact h1
        · exact hA q hq
      · rw [if_neg h1] at h
        exact ⟨[], [], m :: l, rfl, AllS.nil _, AllS.nil _, .inr ⟨m, l, rfl, h1, h2, h⟩⟩
theorem inv_inv_nf (n : Nat) : ∀ l : List Mk, l.length ≤ n → Nf false l → invG [] (invG [] l) = l := by
  induction n with
  | zero =>
    intro l hl _
    cases l with
    | nil => rfl
    | cons => simp at hl
  | succ n ih =>
    intro l hl h
    obtain ⟨R, A, t, rfl, hR, hA, ht⟩ := nf_false h
    have e1 : invG [] (R ++ (A ++ t)) = A.map (tu 45) ++ invG (R.map (tu 43)) t := by
      rw [inv_rem hR, inv_add hA]
      simp
    rw [e1, inv_rem (allS_tu 45 A)]
    rcases ht with rfl | ⟨m, r, rfl, h1, h2, hr⟩
    · have e2 : invG (R.map (tu 43)) [] = R.map (tu 43) ++ [] := by simp [invG]
      rw [e2, inv_add (allS_tu 43 R), tu_back hR, List.nil_append, tu_back hA]
      simp [invG]
    · have e2 : invG (R.map (tu 43)) (m :: r) = R.map (tu 43) ++ (m :: invG [] r) := by
        simp only [invG]
        rw [if_neg h1, if_neg h2]
      rw [e2, inv_add (allS_tu 43 R), tu_back hR, List.nil_append, tu_back hA]
      simp only [invG]
      rw [if_neg h1, if_neg h2, ih r (by simp at hl; omega) hr]
theorem invH_nf {h : Hk} (hn : Nf false h.ls) : invH (invH h) = h := by
  obtain ⟨A, AN, B, BN, ls⟩ := h
  simp only [invH]
  rw [inv_inv_nf ls.length ls (Nat.le_refl _) hn]
/-- going back twice, once it was gone back -/
theorem invH_four (h : Hk) : invH (invH (invH (invH h))) = invH (invH h) := invH_nf (nf_inv _ [] (AllS.nil _))

/-- all but the last have their line feed -/
def abl : List (List UInt8) → Bool
  | [] => true
  | t :: r => (r.isEmpty || fdB t) && abl r
theorem lst_pick {no s : Int} (hn : no = 43 ∧ s = 45 ∨ no = 45 ∧ s = 43) {l : List Mk} (h : ∀ m ∈ l, okS m.sg = true) : lstB s l = (pkL no l).isEmpty := by
  induction l with
  | nil => rfl
  | cons m l ih =>
    have hm := h m (by simp)
    have hi := ih fun q hq => h q (by simp [hq])
    simp only [lstB, List.all_cons, pkL] at hi ⊢
    rw [hi]
    have hcase : m.sg = 32 ∨ m.sg = 45 ∨ m.sg = 43 := by simp [okS] at hm; omega
    by_cases hno : m.sg = no
    · rw [if_neg (fun q => q.1 hno)]
      have e1 : decide (m.sg ≠ s) = true := decide_eq_true (by omega)
      have e2 : decide (m.sg ≠ 32) = true := decide_eq_true (by omega)
      rw [e1, e2]
      simp
    · rw [if_pos ⟨hno, hm⟩]
      have e : (decide (m.sg ≠ s) && decide (m.sg ≠ 32)) = false := by simp; omega
      rw [e]
      simp
/-- lines are as they must be -/
theorem fld_iff (l : List Mk) : fldB l = true ↔ (∀ m ∈ l, linB m.tx = true ∧ okS m.sg = true) ∧ abl (pkL 43 l) = true ∧ abl (pkL 45 l) = true := by
  induction l with
  | nil => simp [fldB, pkL, abl]
  | cons m l ih =>
    simp only [fldB, Bool.and_eq_true, ih]
    constructor
    · rintro ⟨⟨⟨h1, h2⟩, h3⟩, h4, h5, h6⟩
      have hok : ∀ q ∈ l, okS q.sg = true := fun q hq => (h4 q hq).2
      rw [lst_pick (no := 43) (by omega) hok, lst_pick (no := 45) (by omega) hok] at h3
      refine ⟨?_, ?_, ?_⟩
      · intro q hq
        simp at hq
        rcases hq with rfl | hq
        · exact ⟨h1, h2⟩
        · exact h4 q hq
      · simp only [pkL]
        by_cases hs : m.sg = 43
        · rw [if_neg (fun q => q.1 hs)]
          exact h5
        · rw [if_pos ⟨hs, h2⟩]
          simp only [abl, h5, Bool.and_true]
          simp [hs] at h3
          rcases h3 with h3 | h3
          · simp [h3]
          · simp [h3.1]
      · simp only [pkL]
        by_cases hs : m.sg = 45
        · rw [if_neg (fun q => q.1 hs)]
          exact h6
        · rw [if_pos ⟨hs, h2⟩]
          simp only [abl, h6, Bool.and_true]
          simp [hs] at h3
          rcases h3 with h3 | h3
          · simp [h3]
          · simp [h3.2]
    · rintro ⟨h1, h2, h3⟩
      have hm := h1 m (by simp)
      have h4 : ∀ q ∈ l, linB q.tx = true ∧ okS q.sg = true := fun q hq => h1 q (by simp [hq])
      have hok : ∀ q ∈ l, okS q.sg = true := fun q hq => (h4 q hq).2
      rw [lst_pick (no := 43) (by omega) hok, lst_pick (no := 45) (by omega) hok]
      simp only [pkL] at h2 h3
      refine ⟨⟨hm, ?_⟩, h4, ?_, ?_⟩
      · by_cases hs : m.sg = 43
        · rw [if_pos ⟨by omega, hm.2⟩] at h3
          simp only [abl, Bool.and_eq_true, Bool.or_eq_true] at h3
          rcases h3.1 with q | q
          · simp [hs, q]
          · simp [q]
        · rw [if_pos ⟨hs, hm.2⟩] at h2
          simp only [abl, Bool.and_eq_true, Bool.or_eq_true] at h2
          by_cases hr : m.sg = 45
          · rcases h2.1 with q | q
            · simp [hr, q]
            · simp [q]
          · rw [if_pos ⟨hr, hm.2⟩] at h3
            simp only [abl, Bool.and_eq_true, Bool.or_eq_true] at h3
            rcases h2.1 with q | q
            · rcases h3.1 with q' | q'
              · simp [q, q']
              · simp [q']
            · simp [q]
      · by_cases hs : m.sg = 43
        · rw [if_neg (fun q => q.1 hs)] at h2
          exact h2
        · rw [if_pos ⟨hs, hm.2⟩] at h2
          simp only [abl, Bool.and_eq_true] at h2
          exact h2.2
      · by_cases hs : m.sg = 45
        · rw [if_neg (fun q => q.1 hs)] at h3
          exact h3
        · rw [if_pos ⟨hs, hm.2⟩] at h3
          simp only [abl, Bool.and_eq_true] at h3
          exact h3.2
/-- what is true of the lines, whatever their sign of the three, is true of those that go back -/
theorem inv_each {P : Mk → Prop} (hP : ∀ t : List UInt8, P ⟨43, t⟩ ↔ P ⟨45, t⟩) (l : List Mk) : ∀ x, (∀ m ∈ invG x l, P m) ↔ (∀ m ∈ x, P m) ∧ ∀ m ∈ l, P m := by
  induction l with
  | nil => intro x; simp [invG]
  | cons m l ih =>
    intro x
    simp only [invG]
    obtain ⟨s, t⟩ := m
    dsimp only
    by_cases h1 : s = 43
    · subst h1
      rw [if_pos rfl]
      simp only [List.mem_cons, forall_eq_or_imp, ih, hP]
      constructor
      · rintro ⟨a, b, c⟩; exact ⟨b, a, c⟩
      · rintro ⟨b, a, c⟩; exact ⟨a, b, c⟩
    · rw [if_neg h1]
      by_cases h2 : s = 45
      · subst h2
        rw [if_pos rfl, ih]
        constructor
        · rintro ⟨a, b⟩
          refine ⟨fun m hm => a m (List.mem_append_left _ hm), fun m hm => ?_⟩
          rcases List.mem_cons.1 hm with rfl | hm
          · exact (hP t).1 (a _ (List.mem_append_right _ (List.mem_cons_self ..)))
          · exact b m hm
        · rintro ⟨a, b⟩
          refine ⟨fun m hm => ?_, fun m hm => b m (List.mem_cons_of_mem _ hm)⟩
          rcases List.mem_append.1 hm with hm | hm
          · exact a m hm
          · rw [List.mem_singleton.1 hm]
            exact (hP t).2 (b _ (List.mem_cons_self ..))
      · rw [if_neg h2]
        have hr := ih []
        constructor
        · intro a
          have h3 := hr.1 fun m hm => a m (List.mem_append_right _ (List.mem_cons_of_mem _ hm))
          refine ⟨fun m hm => a m (List.mem_append_left _ hm), fun m hm => ?_⟩
          rcases List.mem_cons.1 hm with rfl | hm
          · exact a _ (List.mem_append_right _ (List.mem_cons_self ..))
          · exact h3.2 m hm
        · rintro ⟨a, b⟩ m hm
          rcases List.mem_append.1 hm with hm | hm
          · exact a m hm
          · rcases List.mem_cons.1 hm with rfl | hm
            · exact b _ (List.mem_cons_self ..)
            · exact hr.2 ⟨fun _ h => (by cases h), fun q hq => b q (List.mem_cons_of_mem _ hq)⟩ m hm
theorem inv_fld (l : List Mk) : fldB (invG [] l) = fldB l := by
  have key : fldB (invG [] l) = true ↔ fldB l = true := by
    rw [fld_iff, fld_iff, inv_old l [] (AllS.nil _), inv_new l [] (AllS.nil _), inv_each (P := fun m => linB m.tx = true ∧ okS m.sg = true) (fun t => by simp [okS]) l []]
    simp only [List.not_mem_nil, false_implies, implies_true, true_and, pkL, List.nil_append]
    constructor
    · rintro ⟨a, b, c⟩; exact ⟨a, c, b⟩
    · rintro ⟨a, b, c⟩; exact ⟨a, c, b⟩
  cases h1 : fldB (invG [] l) <;> cases h2 : fldB l <;> simp_all
theorem inv_all (l : List Mk) : (invG [] l).all (fun m => decide (m.sg = 32)) = l.all (fun m => decide (m.sg = 32)) := by
  have key : (invG [] l).all (fun m => decide (m.sg = 32)) = true ↔ l.all (fun m => decide (m.sg = 32)) = true := by
    have h := inv_each (P := fun m => m.sg = 32) (fun t => by simp) l []
    simp only [List.not_mem_nil, false_implies, implies_true, true_and] at h
    simpa using h
  cases h1 : (invG [] l).all (fun m => decide (m.sg = 32)) <;> cases h2 : l.all (fun m => decide (m.sg = 32)) <;> simp_all
theorem rng_inv (h : Hk) : rngB (invH h) = rngB h := by
  show (nat31 h.B && nat31 h.BN && nat31 h.A && nat31 h.AN && !(decide (h.B = 0) && decide (0 < h.BN)) && !(decide (h.A = 0) && decide (0 < h.AN))) = (nat31 h.A && nat31 h.AN && nat31 h.B && nat31 h.BN && !(decide (h.A = 0) && decide (0 < h.AN)) && !(decide (h.B = 0) && decide (0 < h.BN)))
  generalize (decide (h.A = 0) && decide (0 < h.AN)) = p
  generalize (decide (h.B = 0) && decide (0 < h.BN)) = q
  cases nat31 h.A <;> cases nat31 h.AN <;> cases nat31 h.B <;> cases nat31 h.BN <;> cases p <;> cases q <;> rfl
/-- a hunk is right just if the one that goes back is -/
theorem chk_inv (h : Hk) : chkH (invH h) = 0 ↔ chkH h = 0 := by
  simp only [chkH, rng_inv]
  have e1 : fldB (invH h).ls = fldB h.ls := inv_fld h.ls
  have e2 : (invH h).ls.all (fun m => decide (m.sg = 32)) = h.ls.all (fun m => decide (m.sg = 32)) := inv_all h.ls
  rw [e1, e2, invH_old, invH_new]
  have e3 : (invH h).AN = h.BN := rfl
  have e4 : (invH h).BN = h.AN := rfl
  rw [e3, e4]
  by_cases h1 : rngB h = false
  · simp [h1]
  · by_cases h2 : fldB h.ls = false
    · simp [h1, h2]
    · by_cases h3 : h.AN = (oldL h).length <;> by_cases h4 : h.BN = (newL h).length <;> simp [h1, h2, h3, h4]
end Go.Proofs.Ythckcdpgjdbgcaa

/- Hunks that are made of two texts: where they stand, their old and new lines, that they are in order and are the script again; plain mathematics. -/
namespace Go.Proofs.Ythckcdpgjdbgcaa

theorem hcut_length {A : List (List UInt8)} {p k : Int} (hp : 0 ≤ p) (hk : 0 ≤ k) (h : p + k ≤ A.length) : ((cut A p k).length : Int) = k := by
  simp only [cut, List.length_take, List.length_drop]
  omega
theorem cut_cat {A : List (List UInt8)} {p i j : Int} (hp : 0 ≤ p) (hi : 0 ≤ i) (hj : 0 ≤ j) : cut A p i ++ cut A (p + i) j = cut A p (i + j) := by
  simp only [cut]
  rw [show (p + i).toNat = p.toNat + i.toNat by omega, show (i + j).toNat = i.toNat + j.toNat by omega, ← List.drop_drop, List.take_add]
theorem cut_cat2 {A : List (List UInt8)} {p i x j k : Int} (hp : 0 ≤ p) (hi : 0 ≤ i) (hj : 0 ≤ j) (hx : x = p + i) (hk : k = i + j) : cut A p i ++ cut A x j = cut A p k := by
  rw [hx, hk]
  exact cut_cat hp hi hj
theorem cut_zero (A : List (List UInt8)) (p : Int) : cut A p 0 = [] := by simp [cut]

/-- where a group ends in both texts -/
def endA : Int → List Ch → Int
  | p, [] => p
  | _, c :: g => endA (c.A + c.AN) g
def endB : Int → List Ch → Int
  | q, [] => q
  | _, c :: g => endB (c.B + c.BN) g
theorem endA_append (p : Int) (g h : List Ch) : endA p (g ++ h) = endA (endA p g) h := by
  induction g generalizing p with
  | nil => rfl
  | cons c g ih => exact ih _
theorem endB_append (p : Int) (g h : List Ch) : endB p (g ++ h) = endB (endB p g) h := by
  induction g generalizing p with
  | nil => rfl
  | cons c g ih => exact ih _
theorem endH_eq (n ctx : Int) (f : Ch) (g : List Ch) (p : Int) : endH n ctx (f :: g) = min n (endA p (f :: g) + ctx) := by
  induction g generalizing f p with
  | nil => rfl
  | cons d g ih => exact ih d 0
theorem right_end {fl : Bool} {p q n m : Int} {g rest : List Ch} (h : Right fl p q n m (g ++ rest)) : (Right false (endA p g) (endB q g) n m rest ∨ g = []) ∧ p ≤ endA p g ∧ q ≤ endB q g ∧ endA p g ≤ n ∧ endB q g ≤ m := by
  induction g generalizing fl p q with
  | nil =>
    have := h.le
    exact ⟨.inr rfl, Int.le_refl _, Int.le_refl _, this.1, this.2.1⟩
  | cons c g ih =>
    obtain ⟨⟨h1, h2, h3, h4⟩, h5⟩ := h
    rw [numB_iff] at h1
    obtain ⟨k1, k2, k3, k4, k5⟩ := ih h5
    refine ⟨.inl ?_, ?_, ?_, k4, k5⟩
    · rcases k1 with k1 | rfl
      · exact k1
      · exact h5
    · show p ≤ endA (c.A + c.AN) g
      omega
    · show q ≤ endB (c.B + c.BN) g
      omega
/-- what lies behind a group: as far in one text as in the other -/
theorem right_tail {fl : Bool} {p q n m : Int} {rest : List Ch} (h : Right fl p q n m rest) {e : Int} (he : e ≤ (rest.head?.map (·.A)).getD n) : q + (e - p) ≤ m := by
  cases rest with
  | nil =>
    obtain ⟨h1, h2, h3⟩ := h
    simp at he
    omega
  | cons c rest =>
    obtain ⟨⟨h1, h2, h3, h4⟩, h5⟩ := h
    rw [numB_iff] at h1
    have := h5.le
    simp at he
    omega
/-- the old lines of a group's hunk -/
theorem body_old {a b : List (List UInt8)} {fl : Bool} {p q m e : Int} {g rest : List Ch} (h : Right fl p q a.length m (g ++ rest)) (hp : 0 ≤ p) (he : endA p g ≤ e) : pkL 43 (bodyH a b e p g) = cut a p (e - p) := by
  induction g generalizing fl p q with
  | nil => exact pick_mks_same 43 (.inl rfl) _
  | cons c g ih =>
    obtain ⟨⟨h1, h2, h3, h4⟩, h5⟩ := h
    rw [numB_iff] at h1
    have hi := ih h5 (by omega) he
    have hm := (right_end h5).2.1
    have he' : endA (c.A + c.AN) g ≤ e := he
    simp only [bodyH, pkL_append]
    rw [hi, pick_mks_same 43 (.inl rfl), pick_mks_in 43 45 (by decide) (by decide), pick_mks_out, List.nil_append, cut_cat2 (k := e - c.A) (by omega) (by omega) (by omega) rfl (by omega), cut_cat2 (k := e - p) hp (by omega) (by omega) (by omega) (by omega)]
/-- the new lines of a group's hunk: how many -/
theorem body_new_len {a b : List (List UInt8)} {fl : Bool} {p q e : Int} {g rest : List Ch} (h : Right fl p q a.length b.length (g ++ rest)) (hp : 0 ≤ p) (hq : 0 ≤ q) (he : endA p g ≤ e) (hn : e ≤ a.length) : ((pkL 45 (bodyH a b e p g)).length : Int) = endB q g + (e - endA p g) - q := by
  induction g generalizing fl p q with
  | nil =>
    simp only [bodyH, endA, endB]
    have he' : p ≤ e := he
    rw [pick_mks_same 45 (.inr rfl), hcut_length hp (by omega) (by omega)]
    omega
  | cons c g ih =>
    obtain ⟨⟨h1, h2, h3, h4⟩, h5⟩ := h
    rw [numB_iff] at h1
    have hi := ih h5 (by omega) (by omega) he
    obtain ⟨_, e1, e2, e3, e4⟩ := right_end h5
    have he' : endA (c.A + c.AN) g ≤ e := he
    have x1 := hcut_length (A := a) (p := p) (k := c.A - p) hp (by omega) (by omega)
    have x2 := hcut_length (A := b) (p := c.B) (k := c.BN) (by omega) (by omega) (by omega)
    simp only [bodyH, pkL_append, endA, endB]
    rw [pick_mks_same 45 (.inr rfl), pick_mks_in 45 43 (by decide) (by decide), pick_mks_out, List.nil_append]
    simp only [List.length_append]
    omega
/-- which they are, where what is kept is the same -/
theorem body_new {a b : List (List UInt8)} {fl : Bool} {p q e : Int} {g rest : List Ch} (h : Right fl p q a.length b.length (g ++ rest)) (hs : ∀ r ∈ U p q a.length b.length (g ++ rest), a[r.a.toNat]? = b[r.b.toNat]?) (hp : 0 ≤ p) (hq : 0 ≤ q) (he : endA p g ≤ e) (hr : e ≤ (rest.head?.map (·.A)).getD (a.length : Int)) : pkL 45 (bodyH a b e p g) = cut b q (endB q g + (e - endA p g) - q) := by
  induction g generalizing fl p q with
  | nil =>
    simp only [bodyH, endA, endB]
    have he' : p ≤ e := he
    rw [pick_mks_same 45 (.inr rfl)]
    obtain ⟨k, hk⟩ : ∃ k : Nat, e - p = k := ⟨(e - p).toNat, by omega⟩
    rw [hk, show q + (k : Int) - q = k by omega]
    refine cut_eq hp hq fun r hr' => hs r ?_
    cases rest with
    | nil =>
      simp at hr
      rw [List.nil_append, U_nil, show ((a.length : Int) - p).toNat = k + ((a.length : Int) - p - k).toNat by omega, un_append]
      exact List.mem_append_left _ hr'
    | cons c rest =>
      simp at hr
      rw [List.nil_append, U_cons, show (c.A - p).toNat = k + (c.A - p - k).toNat by omega, un_append, List.append_assoc]
      exact List.mem_append_left _ hr'
  | cons c g ih =>
    obtain ⟨⟨h1, h2, h3, h4⟩, h5⟩ := h
    rw [numB_iff] at h1
    rw [List.cons_append, U_cons] at hs
    have hi := ih h5 (fun r hr => hs r (List.mem_append_right _ hr)) (by omega) (by omega) he
    obtain ⟨_, e1, e2, e3, e4⟩ := right_end h5
    have he' : endA (c.A + c.AN) g ≤ e := he
    simp only [bodyH, pkL_append, endA, endB]
    rw [pick_mks_same 45 (.inr rfl), pick_mks_in 45 43 (by decide) (by decide), pick_mks_out, List.nil_append, hi]
    obtain ⟨k, hk⟩ : ∃ k : Nat, c.A - p = k := ⟨(c.A - p).toNat, by omega⟩
    rw [hk, Int.toNat_natCast] at hs
    rw [hk, cut_eq hp hq fun r hr => hs r (List.mem_append_left _ hr), cut_cat2 (k := endB (c.B + c.BN) g + (e - endA (c.A + c.AN) g) - c.B) (by omega) (by omega) (by omega) rfl (by omega), cut_cat2 (k := endB (c.B + c.BN) g + (e - endA (c.A + c.AN) g) - q) hq (by omega) (by omega) (by omega) (by omega)]
/-- a script gone on from a place further on in what is kept -/
theorem right_shift {fl : Bool} {p q n m x y : Int} {c : Ch} {l : List Ch} (h : Right fl p q n m (c :: l)) (h1 : p ≤ x) (h2 : x ≤ c.A) (h3 : y - x = q - p) : Right true x y n m (c :: l) ∧ ∀ r ∈ U x y n m (c :: l), r ∈ U p q n m (c :: l) := by
  obtain ⟨⟨k1, k2, k3, k4⟩, k5⟩ := h
  refine ⟨⟨⟨k1, by omega, by omega, .inl rfl⟩, k5⟩, fun r hr => ?_⟩
  rw [U_cons] at hr ⊢
  rw [show (c.A - p).toNat = (x - p).toNat + (c.A - x).toNat by omega, un_append, List.append_assoc, show p + ((x - p).toNat : Int) = x by omega, show q + ((x - p).toNat : Int) = y by omega]
  exact List.mem_append_right _ hr

/-- groups between which more than twice so many lines are kept -/
def Hgs (ctx : Int) : List (List Ch) → Prop
  | [] => True
  | g :: gs => g ≠ [] ∧ (∀ d, gs.flatten.head? = some d → 2 * ctx < d.A - endA 0 g) ∧ Hgs ctx gs
theorem grp_gs (ctx : Int) (l : List Ch) : Hgs ctx (grp ctx l) := by
  induction l with
  | nil => trivial
  | cons c l ih =>
    cases l with
    | nil => exact ⟨by simp, fun d hd => (by cases hd), trivial⟩
    | cons d l =>
      obtain ⟨g, gs, h1, h2⟩ := grp_cons2 ctx c d l
      rw [h1] at ih
      rw [h2]
      obtain ⟨_, k2, k3⟩ := ih
      split
      · exact ⟨by simp, k2, k3⟩
      · refine ⟨by simp, ?_, by simp, k2, k3⟩
        intro x hx
        simp at hx
        subst hx
        simp only [endA]
        omega
/-- what a group's hunk is, from where it stands on: s, t its places, e its end -/
structure OneF (a b : List (List UInt8)) (ctx : Int) (g : List Ch) (s t e : Int) : Prop where
  s0 : 0 ≤ s
  t0 : 0 ≤ t
  en : e ≤ a.length
  em : endB 0 g + (e - endA 0 g) ≤ b.length
  le : endA 0 g ≤ e
  se : s ≤ e
  AN : (oneH a b ctx g).AN = e - s
  BN : (oneH a b ctx g).BN = endB 0 g + (e - endA 0 g) - t
  A : (oneH a b ctx g).A = if 0 < e - s then s + 1 else s
  B : (oneH a b ctx g).B = if 0 < endB 0 g + (e - endA 0 g) - t then t + 1 else t
  old : oldL (oneH a b ctx g) = cut a s (e - s)
  ls : (oneH a b ctx g).ls = bodyH a b e s g
/-- the group ahead, and all behind it -/
theorem one_facts {a b : List (List UInt8)} {ctx p q : Int} {fl : Bool} {f : Ch} {g rest : List Ch} (hc : 0 ≤ ctx) (h : Right fl p q a.length b.length (f :: g ++ rest)) (hp : 0 ≤ p) (hq : 0 ≤ q) (hw : p ≤ f.A - min ctx f.A)
    (hr : ∀ d, rest.head? = some d → endA 0 (f :: g) + ctx ≤ d.A) :
    OneF a b ctx (f :: g) (f.A - min ctx f.A) (f.B - min ctx f.A) (min a.length (endA 0 (f :: g) + ctx)) ∧ Right true (f.A - min ctx f.A) (f.B - min ctx f.A) a.length b.length (f :: g ++ rest) ∧ (∀ r ∈ U (f.A - min ctx f.A) (f.B - min ctx f.A) a.length b.length (f :: g ++ rest), r ∈ U p q a.length b.length (f :: g ++ rest)) ∧ (min (a.length : Int) (endA 0 (f :: g) + ctx) ≤ (rest.head?.map (·.A)).getD (a.length : Int)) := by
  have hA : f.A - p = f.B - q := h.1.2.1
  have hnum := (numB_iff f).1 h.1.1
  obtain ⟨hR, hU⟩ := right_shift h hw (by omega) (show (f.B - min ctx f.A) - (f.A - min ctx f.A) = q - p by omega)
  obtain ⟨k1, k2, k3, k4, k5⟩ := right_end (g := f :: g) (rest := rest) hR
  have k1' : Right false (endA 0 (f :: g)) (endB 0 (f :: g)) a.length b.length rest := by
    rcases k1 with k1 | k1
    · exact k1
    · cases k1
  have hE : min (a.length : Int) (endA 0 (f :: g) + ctx) ≤ (rest.head?.map (·.A)).getD (a.length : Int) := by
    cases rest with
    | nil => simp; omega
    | cons d rest =>
      have := hr d rfl
      simp
      omega
  have e0 : endA (f.A - min ctx f.A) (f :: g) = endA 0 (f :: g) := rfl
  have e0' : endB (f.B - min ctx f.A) (f :: g) = endB 0 (f :: g) := rfl
  rw [e0] at k2 k4
  rw [e0'] at k3 k5
  have hem := right_tail k1' hE
  have hls : (oneH a b ctx (f :: g)).ls = bodyH a b (min (a.length : Int) (endA 0 (f :: g) + ctx)) (f.A - min ctx f.A) (f :: g) := by
    show bodyH a b (endH a.length ctx (f :: g)) (f.A - min ctx f.A) (f :: g) = _
    rw [endH_eq _ _ _ _ 0]
  generalize hee : min (a.length : Int) (endA 0 (f :: g) + ctx) = e at *
  have he : endA 0 (f :: g) ≤ e := by omega
  have hold := body_old (a := a) (b := b) (g := f :: g) (rest := rest) (e := e) hR (by omega) he
  have hnew := body_new_len (a := a) (b := b) (g := f :: g) (rest := rest) (e := e) hR (by omega) (by omega) he (by omega)
  rw [e0, e0'] at hnew
  have hol := hcut_length (A := a) (p := f.A - min ctx f.A) (k := e - (f.A - min ctx f.A)) (by omega) (by omega) (by omega)
  have hone : oneH a b ctx (f :: g) = cntH (f.A - min ctx f.A) (f.B - min ctx f.A) (bodyH a b e (f.A - min ctx f.A) (f :: g)) := by
    show cntH _ _ (bodyH a b (endH a.length ctx (f :: g)) _ _) = _
    rw [endH_eq _ _ _ _ 0, hee]
  refine ⟨⟨by omega, by omega, by omega, by omega, he, by omega, ?_, ?_, ?_, ?_, ?_, hls⟩, hR, hU, hE⟩
  · rw [hone]
    show ((pkL 43 (bodyH a b e _ (f :: g))).length : Int) = _
    rw [hold, hol]
  · rw [hone]
    exact hnew
  · rw [hone]
    show (if 0 < (pkL 43 (bodyH a b e _ (f :: g))).length then _ else _) = _
    rw [hold]
    by_cases hz : 0 < e - (f.A - min ctx f.A)
    · rw [if_pos (by omega), if_pos hz]
    · rw [if_neg (by omega), if_neg hz]
  · rw [hone]
    show (if 0 < (pkL 45 (bodyH a b e _ (f :: g))).length then _ else _) = _
    by_cases hz : 0 < endB 0 (f :: g) + (e - endA 0 (f :: g)) - (f.B - min ctx f.A)
    · rw [if_pos (by omega), if_pos hz]
    · rw [if_neg (by omega), if_neg hz]
  · rw [hone]
    exact hold
end Go.Proofs.Ythckcdpgjdbgcaa
