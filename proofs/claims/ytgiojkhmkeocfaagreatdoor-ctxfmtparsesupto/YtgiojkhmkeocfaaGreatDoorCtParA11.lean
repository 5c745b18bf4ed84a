/-
  Texts that belong together, joined: CpM, CpN, NpS, CpO, CrN, CrV, CrH, CrZ.
-/
import Derived.Test.YtgiojkhmkeocfaaGreatDoorCtParA10
import Derived.Test.YtgiojkhmkeocfaaGreatDoorCtParA3
import Derived.Test.YtgiojkhmkeocfaaGreatDoorCtParA2
import Derived.Defers
import Derived.Recover
import Derived.Test.YtgiojkhmkeocfaaGreatDoorCtParA4
import Derived.BigQuiet
import Derived.Test.YtgiojkhmkeocfaaGreatDoorCtParA7
import Derived.Test.YtgiojkhmkeocfaaGreatDoorCtParA6

/- The code's reader of layer 15, walked: a patch. -/
set_option maxRecDepth 20000
namespace Go.Proofs.YtgiojkhmkeocfaaGreatDoor
open Go.RowKit

theorem call_entersR {P : Program} {A : Act} {op : Oper} {w : World} {F : Nat} {x : Operand} {xs : Array Operand} {ts : Array TypeId} (ho : op.op = .call { callee := .value x, args := xs, argTypes := ts }) {cap : Array Value} (hxv : A.eval x = .func (.func F) #[] cap) {args : Array Value} (hx : xs.map A.eval = args) (hen : ∀ args w, (callFunc F args).run P w = .ok (.enter F args) w) : (execOp A.eval op).run P w = .ok (.enter F (args ++ cap)) w := by
  have h1 := hen (args ++ cap) w
  simp only [execOp, ho, resolve, invoke]
  simp only [hxv, Deferred.ofValue, Sem.run_bind, Sem.run_pure, Result.andThen_ok, hx, Array.empty_append]
  exact h1
theorem go_callR {P : Program} {S : World → Prop} {md : Region.Mode} {ops : Array Oper} {Q : Exit → Act → World → Prop} {fuel : Nat} {listed : Array Bool} {A : Act} {w : World}
    (i d : Nat) (op : Oper) (hi : ops[i]? = some op) (hd : op.dst = some d) (hr : Region.ready md ops listed = [i]) (hwt : Region.wanted op (yielded ops A.tmps) = true)
    (F : Nat) (x : Operand) (xs : Array Operand) (ts : Array TypeId) (ho : op.op = .call { callee := .value x, args := xs, argTypes := ts })
    (cap : Array Value) (hxv : A.eval x = .func (.func F) #[] cap) (args : Array Value) (hx : xs.map A.eval = args) (hen : ∀ args w, (callFunc F args).run P w = .ok (.enter F args) w) (R : Value → World → Prop) (Pn : List PanicEntry → World → Prop)
    (hp : ∀ c w', Pn c w' → Q (.panic c) A w')
    (hc : Calls P F (args ++ cap) w fun e w' => (∃ v, e = .returned v ∧ S w' ∧ R v w') ∨ (∃ c, e = .panicked c ∧ Pn c w'))
    (h : ∀ v w', S w' → R v w' → wpAnyH P md ops Q S fuel (listed.setIfInBounds i true) (A.put (some d) v) w') :
    wpAnyH P md ops Q S (fuel + 1) listed A w := by
  refine wpAnyH_ready hr (by simp) (AllReadyH.cons hi (fun K hK => ?_) AllReadyH.nil)
  refine step_want hwt ?_
  unfold Oper.wp
  rw [call_entersR ho hxv hx hen, Oper.upon_enter]
  refine hc.mono ?_
  rintro e w' (⟨v, rfl, hb, hR⟩ | ⟨c, rfl, hpn⟩)
  · exact hK.out _ _ hb (fun hu => by rw [hd]; exact h v w' hu hR)
  · exact hp c w' hpn
theorem go_valCallR {P : Program} {S : World → Prop} {md : Region.Mode} {ops : Array Oper} {Q : Exit → Act → World → Prop} {fuel : Nat} {listed : Array Bool} {A : Act} {w : World}
    (j e : Nat) (oq : Oper) (i d : Nat) (op : Oper) (hj : ops[j]? = some oq) (he : oq.dst = some e) (hi : ops[i]? = some op) (hd : op.dst = some d) (hr : Region.ready md ops listed = [j, i]) (hwq : Region.wanted oq (yielded ops A.tmps) = true) (hwt : Region.wanted op (yielded ops A.tmps) = true)
    (vq : Value) (wq : World) (hq : (execOp A.eval oq).run P w = .ok (.value vq) wq) (hS : S wq)
    (F : Nat) (x : Operand) (xs : Array Operand) (ts : Array TypeId) (ho : op.op = .call { callee := .value x, args := xs, argTypes := ts })
    (cap : Array Value) (hxv : A.eval x = .func (.func F) #[] cap) (args : Array Value) (hx : xs.map A.eval = args) (hen : ∀ args w, (callFunc F args).run P w = .ok (.enter F args) w) (R : Value → World → Prop) (Pn : List PanicEntry → World → Prop)
    (hp : ∀ c w', Pn c w' → Q (.panic c) A w')
    (hc : Calls P F (args ++ cap) w fun e w' => (∃ v, e = .returned v ∧ S w' ∧ R v w') ∨ (∃ c, e = .panicked c ∧ Pn c w'))
    (h2 : wpAnyH P md ops Q S fuel (listed.setIfInBounds j true) (A.put (some e) vq) wq)
    (h : ∀ v w', S w' → R v w' → wpAnyH P md ops Q S fuel (listed.setIfInBounds i true) (A.put (some d) v) w') :
    wpAnyH P md ops Q S (fuel + 1) listed A w := by
  refine wpAnyH_ready hr (by simp) (AllReadyH.cons hj (fun K hK => ?_) (AllReadyH.cons hi (fun K hK => ?_) AllReadyH.nil))
  · refine step_want hwq ?_
    unfold Oper.wp
    rw [hq, Oper.upon_value]
    exact hK.out _ _ hS (fun _ => by rw [he]; exact h2)
  · refine step_want hwt ?_
    unfold Oper.wp
    rw [call_entersR ho hxv hx hen, Oper.upon_enter]
    refine hc.mono ?_
    rintro e w' (⟨v, rfl, hb, hR⟩ | ⟨c, rfl, hpn⟩)
    · exact hK.out _ _ hb (fun hu => by rw [hd]; exact h v w' hu hR)
    · exact hp c w' hpn
theorem load_hksR {u : World} {a : Addr} {o : Option Addr} {n c : Nat} (h : u.cell? a = some (.slice o n c)) {op : Oper} (x : Operand) (ho : op.op = .load 34 x) {ev : Operand → Value} (hx : ev x = .pointer (some a)) :
    (execOp ev op).run Tryz.prog u = .ok (.value (.slice o n c)) u := by
  simp only [execOp, ho, hx]
  go_simp
theorem exec_storeHR {u : World} {a : Addr} {v0 : Value} (hc : u.cell? a = some v0) (hf : u.frozen? a = false) {o : Option Addr} {n c : Nat} {op : Oper} (x y : Operand) (ho : op.op = .store 34 x y) {ev : Operand → Value} (hx : ev x = .pointer (some a)) (hy : ev y = .slice o n c) :
    (execOp ev op).run Tryz.prog u = .ok .skip (u.setCell a (.slice o n c)) := by
  simp only [execOp, ho, hx, hy]
  go_simp
def zpO : Obj := .cells #[.string ⟨#[]⟩, .string ⟨#[]⟩, .slice none 0 0] 55
def mkP (n1 n2 : List UInt8) (Y : Except (Nat × Int) (List Hk × Nat × List (List UInt8))) : Except (Nat × Int) (Pth × Nat × List (List UInt8)) :=
  match Y with
  | .error e => .error e
  | .ok (hs, p3, r3) => .ok (⟨n1, n2, hs⟩, p3, r3)
/-- a further hunk is to be read -/
theorem lef_go {P : List (Hk × Value)} {f p : Nat} {r : List (List UInt8)} (h : (decide (P = []) || pkS r) = true) : lefH P (f + 1) p r = match cxH P.length p r with
    | .error e => .error e
    | .ok (x, p1, r1) => thenX (P.map (·.1) ++ [x]) (conH f (P.length + 1) p1 r1) := by
  unfold lefH
  by_cases hP : P = []
  · rw [if_pos hP, cxHs_step, hP]
    rfl
  · rw [if_neg hP]
    have hk : pkS r = true := by simpa [hP] using h
    unfold conH
    rw [if_pos hk, cxHs_step]
    rfl
theorem lef_no {P : List (Hk × Value)} {f p : Nat} {r : List (List UInt8)} (h : (decide (P = []) || pkS r) = false) : lefH P f p r = .ok (P.map (·.1), p, r) := by
  rw [Bool.or_eq_false_iff, decide_eq_false_iff_not] at h
  unfold lefH conH
  rw [if_neg h.1, if_neg (by rw [h.2]; decide)]
  simp [thenX]
theorem lef_more {P : List (Hk × Value)} {f p : Nat} {r : List (List UInt8)} (x : Hk) (y : Value) : lefH (P ++ [(x, y)]) f p r = thenX (P.map (·.1) ++ [x]) (conH f (P.length + 1) p r) := by
  unfold lefH
  rw [if_neg (by simp), List.map_append, List.length_append]
  rfl
/-- what a patch leaves behind -/
def PtX (R : Nat) (vL : Value) (X : Except (Nat × Int) (Pth × Nat × List (List UInt8))) (w : World) (e : Ending) (w' : World) : Prop :=
  match X with
  | .error (a, z) => Thr (a : Int) z e w' ∧ w.grownBy w' (some R)
  | .ok (x, p1, _) => ∃ hv P, e = .returned (.agg #[.string ⟨x.old.toArray⟩, .string ⟨x.new.toArray⟩, hv]) ∧ x.hs = P.map (·.1) ∧ w'.ownsRow w.heap.size 59 5 hv P.length (hkcells P) ∧ (∀ y ∈ P, w'.ownsRow w.heap.size 103 2 y.2 y.1.ls.length (mkcells y.1.ls)) ∧ Ck w' R vL (p1 : Int) ∧ w.grownBy w' (some R)
def three (u : World) (Q : Nat) (n1 n2 : List UInt8) (v : Value) : World := ((u.setCell ⟨Q, 0, none⟩ (.string ⟨n1.toArray⟩)).setCell ⟨Q, 1, none⟩ (.string ⟨n2.toArray⟩)).setCell ⟨Q, 2, none⟩ v
theorem three_cells {w wb u : World} {R : Nat} (hg : wb.grownBy u (some R)) (hZ : wb.heap[w.heap.size]? = some zpO ∧ w.heap.size < wb.heap.size ∧ w.heap.size ≠ R) (Q : Nat) (hQ : w.heap.size = Q) :
    u.cell? ⟨Q, 0, none⟩ = some (.string ⟨#[]⟩) ∧ u.cell? ⟨Q, 1, none⟩ = some (.string ⟨#[]⟩) ∧ u.cell? ⟨Q, 2, none⟩ = some (.slice none 0 0) ∧ ∀ j, u.frozen? ⟨Q, j, none⟩ = false := by
  obtain ⟨h1, h2, h3⟩ := hZ
  have hb : u.heap[w.heap.size]? = some (.cells #[.string ⟨#[]⟩, .string ⟨#[]⟩, .slice none 0 0] 55) := (hg.block _ h2 (fun e => h3 (Option.some.inj e))).trans h1
  rw [hQ] at hb
  refine ⟨?_, ?_, ?_, fun j => Lib.frozen_of_heap hb j⟩ <;> rw [Lib.cell_of_heap hb] <;> rfl
theorem three_fin {w wb u : World} {R S : Nat} {vL hv : Value} {n1 n2 : List UInt8} {P : List (Hk × Value)} {p : Nat} (h : Pzc wb R S vL n1 n2 hv P p u) (hG : ∀ u, wb.grownBy u (some R) → w.grownBy u (some R)) (hZ : wb.heap[w.heap.size]? = some zpO ∧ w.heap.size < wb.heap.size ∧ w.heap.size ≠ R) :
    (three u w.heap.size n1 n2 hv).heap[w.heap.size]? = some (.cells #[.string ⟨n1.toArray⟩, .string ⟨n2.toArray⟩, hv] 55) ∧ (three u w.heap.size n1 n2 hv).ownsRow w.heap.size 59 5 hv P.length (hkcells P) ∧ (∀ y ∈ P, (three u w.heap.size n1 n2 hv).ownsRow w.heap.size 103 2 y.2 y.1.ls.length (mkcells y.1.ls)) ∧ Ck (three u w.heap.size n1 n2 hv) R vL (p : Int) ∧ w.grownBy (three u w.heap.size n1 n2 hv) (some R) := by
  obtain ⟨h1, h2, h3⟩ := hZ
  have hb : u.heap[w.heap.size]? = some zpO := (h.gr.block _ h2 (fun e => h3 (Option.some.inj e))).trans h1
  have hg : u.grownBy (three u w.heap.size n1 n2 hv) (some w.heap.size) := grown_two (grown_two (grown_set u _ 0 _) (grown_set _ _ 1 _)) (grown_set _ _ 2 _)
  refine ⟨?_, own_base (owns_fr h.own hg h2) (by omega), fun y hy => own_base (owns_fr (h.ins y hy) hg h2) (by omega), h.ck.keep hg (fun e => h3 (Option.some.inj e).symm), ?_⟩
  · have s0 := heap_setCell_same u w.heap.size 0 _ _ (.string ⟨n1.toArray⟩) hb
    have s1 := heap_setCell_same _ w.heap.size 1 _ _ (.string ⟨n2.toArray⟩) s0
    exact heap_setCell_same _ w.heap.size 2 _ _ hv s1
  · exact grown_new (grown_new (grown_new (hG _ h.gr) (Nat.le_refl _) 0 _) (Nat.le_refl _) 1 _) (Nat.le_refl _) 2 _
set_option maxHeartbeats 16000000 in
set_option maxRecDepth 40000 in
theorem cpatch_f {R : Nat} {L : List (List UInt8)} {lo : Option Addr} {lc : Nat} {p k : Nat} (hk : k ≤ 64) (w : World) (q : Ck w R (.slice lo L.length lc) p) (HL : Hid (∀ u, w.grownBy u (some R) → HS u (.slice lo L.length lc) L)) (HPl : Hid (Plain L)) (hp : p ≤ L.length) (hLl : L.length ≤ 137438953472) (HSl : Hid (∀ s ∈ L, s.length ≤ 1099511627776))
    (X : Except (Nat × Int) (Pth × Nat × List (List UInt8))) (HX : Hid (patP k p (L.drop p) = X)) :
    Calls Tryz.prog 51 #[.pointer (some ⟨R, 0, none⟩), .int .i64 (k : Int)] w fun e w' => PtX R (.slice lo L.length lc) X w e w' := by
  have HG : Hid (∀ u, (w.alloc zpO).grownBy u (some R) → w.grownBy u (some R)) := fun u hu => grown_base _ hu
  have hRl := q.lt
  have HX2 := HX.out
  have hRl1 : R < (w.alloc zpO).heap.size := (by simp; omega)
  have HZ : Hid ((w.alloc zpO).heap[w.heap.size]? = some zpO ∧ w.heap.size < (w.alloc zpO).heap.size ∧ w.heap.size ≠ R) := ⟨heap_alloc_new w _, by simp, by omega⟩
  have hP0 : Pzc (w.alloc zpO) R (w.heap.size + 1) (.slice lo L.length lc) [] [] (.slice none 0 0) [] p ((w.alloc zpO).alloc zpO) := (by
    have hsz : (w.alloc zpO).heap.size = w.heap.size + 1 := by simp
    refine ⟨World.grownBy_alloc _ _ _, ?_, hnil_row _ _ _ _, fun x hx => (by cases hx), (q.low ((Below.refl _ w).alloc (Nat.le_refl _) _)).low ((Below.refl _ _).alloc (Nat.le_refl _) _), by omega, hRl1⟩
    rw [← hsz]
    exact heap_alloc_new _ _)
  have hW : (w.alloc (.cells #[.string ⟨#[]⟩, .string ⟨#[]⟩, .slice none 0 0] 55)).alloc (.cells #[.string ⟨#[]⟩, .string ⟨#[]⟩, .slice none 0 0] 55) = (w.alloc zpO).alloc zpO := rfl
  obtain ⟨Y, hY⟩ : ∃ Y, namP [42, 42, 42, 32] p (L.drop p) = Y := ⟨_, rfl⟩
  unfold patP at HX2
  rw [hY] at HX2
  have hn1 := cnm_f [42, 42, 42, 32] rfl _ hP0.ck (HL.out _ (HG.out _ hP0.gr)) hp (by omega) HSl.out Y hY
  clear HX q
  generalize hwb : w.alloc zpO = wb at *
  clear hwb
  go_enter Tryz.func51, Tryz.ntmps51
  go_wp2_with fail
  clear hW
  generalize w.heap.size + 1 = S at hP0 ⊢
  generalize wb.alloc zpO = w0 at hP0 hn1 ⊢
  refine hn1.mono ?_
  clear hn1
  cases Y with
  | error z =>
    obtain ⟨a, z⟩ := z
    rintro e w1 ⟨⟨g, rfl, hg⟩, hgr⟩
    have hXe : X = .error (a, z) := HX2.symm
    subst hXe
    go_wp2
    exact ⟨rfl, ⟨_, rfl, hg⟩, HG.out _ (grown_two hP0.gr hgr)⟩
  | ok z =>
    obtain ⟨n1, r1⟩ := z
    rintro e w1 ⟨rfl, hB1⟩
    obtain ⟨rfl, hpl⟩ := nam_drop hY
    dsimp only at HX2
    have hP1 := hP0.keep hB1
    clear hY hP0 hB1
    obtain ⟨c0, c1, c2⟩ := hP1.cells
    have f0 := hP1.frozen 0
    have hP2 := hP1.put 0 (.string ⟨n1.toArray⟩) (m1 := n1) (m2 := []) (hv' := .slice none 0 0) rfl hP1.own
    clear hP1
    by_cases h64 : 64 ≤ k
    · rw [if_pos h64] at HX2
      have hXe := HX2.symm
      subst hXe
      have e1 : ((k : Int) == 64) = true := beq_iff_eq.2 (by omega)
      go_wp2_with fail
      refine (crefuse_f 9 _ hP2.ck (by omega)).mono ?_
      rintro e w2 ⟨⟨g, rfl, hg⟩, hgr⟩
      go_wp2
      exact ⟨rfl, ⟨_, rfl, by simpa using hg⟩, HG.out _ (grown_two hP2.gr hgr)⟩
    · rw [if_neg h64] at HX2
      have e1 : ((k : Int) == 64) = false := beq_eq_false_iff_ne.2 (by omega)
      go_upto_region 3 with fail
      clear c0 c1 c2 f0
      generalize w1.setCell ⟨S, 0, none⟩ (.string ⟨n1.toArray⟩) = w2 at hP2 ⊢
      obtain ⟨d0, d1⟩ := hP2.ck.cells
      have f1 := hP2.ck.frozen 1
      have hP3 := hP2.next
      obtain ⟨Y2, hY2⟩ : ∃ Y, namP [45, 45, 45, 32] (p + 1) (L.drop (p + 1)) = Y := ⟨_, rfl⟩
      rw [hY2] at HX2
      have hn2 := cnm_f [45, 45, 45, 32] rfl _ hP3.ck (HL.out _ (HG.out _ hP3.gr)) (by omega) (by omega) HSl.out Y2 hY2
      go_wp2_with fail
      refine hn2.mono ?_
      clear hn2 hP2 d0 d1 f1
      cases Y2 with
      | error z =>
        obtain ⟨a, z⟩ := z
        rintro e w3 ⟨⟨g, rfl, hg⟩, hgr⟩
        have hXe : X = .error (a, z) := HX2.symm
        subst hXe
        go_wp2
        exact ⟨rfl, ⟨_, rfl, hg⟩, HG.out _ (grown_two hP3.gr hgr)⟩
      | ok z =>
        obtain ⟨n2, r2⟩ := z
        rintro e w3 ⟨rfl, hB3⟩
        obtain ⟨rfl, hpl2⟩ := nam_drop hY2
        dsimp only at HX2
        have hP4 := hP3.keep hB3
        clear hY2 hP3 hB3
        obtain ⟨c0, c1, c2⟩ := hP4.cells
        have f1 := hP4.frozen 1
        have hP5 := hP4.put 1 (.string ⟨n2.toArray⟩) (m1 := n1) (m2 := n2) (hv' := .slice none 0 0) rfl hP4.own
        clear hP4
        go_upto_region 7 with fail
        clear c0 c1 c2 f1
        generalize w3.setCell ⟨S, 1, none⟩ (.string ⟨n2.toArray⟩) = w4 at hP5 ⊢
        obtain ⟨d0, d1⟩ := hP5.ck.cells
        have f1 := hP5.ck.frozen 1
        have hP6 := hP5.next
        clear hP5
        obtain ⟨Y3, hY3⟩ : ∃ Y, cxHs ((L.drop (p + 1 + 1)).length + 1) 0 (p + 1 + 1) (L.drop (p + 1 + 1)) = Y := ⟨_, rfl⟩
        have HX3 : Hid (mkP n1 n2 Y3 = X) := (by show _ = _; rw [← hY3]; exact HX2)
        have HY0 : Hid (lefH [] ((L.drop (p + 1 + 1)).length + 1) (p + 1 + 1) (L.drop (p + 1 + 1)) = Y3) := (by show _ = _; unfold lefH; rw [if_pos rfl, List.map_nil, thenX_nil]; exact hY3)
        clear hY3 HX2
        go_wp2
        rw [show (((p + 1 : Nat) : Int) + 1) = (p : Int) + 1 + 1 by omega] at hP6
        generalize w4.setCell ⟨R, 1, none⟩ (.int .i64 ((p : Int) + 1 + 1)) = w5 at hP6 ⊢
        clear d0 d1 f1
        go_loopw [] (fun wr => ∃ (hv : Value) (P : List (Hk × Value)) (p' f : Nat), (∃ o c, hv = .slice o P.length c) ∧ Pzc wb R S (.slice lo L.length lc) n1 n2 hv P p' wr ∧ p' ≤ L.length ∧ P.length ≤ 4096 ∧ Hid ((L.drop p').length + 1 ≤ f) ∧ Hid (lefH P f p' (L.drop p') = Y3)) (fun wr => L.length - ckN wr R)
        case atStart => exact ⟨_, [], p + 1 + 1, _, ⟨none, 0, rfl⟩, hP6, by omega, Nat.zero_le _, Nat.le_refl _, HY0⟩
        case round =>
        clear hP6 HY0
        obtain ⟨hv, P, p', f, ⟨ho, hc, rfl⟩, hZ, hp', hPl, HF, HI⟩ := hrel
        obtain ⟨c0, c1, c2⟩ := hZ.cells
        have hLr := HL.out _ (HG.out _ hZ.gr)
        have HK : Hid (ckN wr R = p') := ckN_of hZ.ck
        obtain ⟨gd, hgd⟩ : ∃ g, (decide (P = []) || pkS (L.drop p')) = g := ⟨_, rfl⟩
        go_upto_region 8 with fail
        go_cut [37] from 30 to 47 (fun cv wz => cv = .bool gd ∧ Pzc wb R S (.slice lo L.length lc) n1 n2 (.slice ho P.length hc) P p' wz)
        case first =>
          by_cases hP0 : P = []
          · have z1 : ((P.length : Int) == 0) = true := (by rw [hP0]; rfl)
            have HE : Hid (true = gd) := (by rw [decide_eq_true hP0, Bool.true_or] at hgd; exact hgd)
            clear hP0 hgd
            go_wp2
            go_meet
            case rel => exact ⟨by rw [← HE.out], hZ⟩
          · have z1 : ((P.length : Int) == 0) = false := (by rw [beq_eq_false_iff_ne]; intro e; exact hP0 (List.eq_nil_of_length_eq_zero (by omega)))
            have hat := catStars_f wr hZ.ck hLr hp' (by omega) gd (show Hid (pkS (L.drop p') = gd) by show _ = _; rw [← hgd, decide_eq_false hP0, Bool.false_or])
            clear hP0 hgd
            go_wp2_with fail
            refine hat.mono ?_
            rintro e w6 ⟨rfl, nn, rfl⟩
            have hZ2 := hZ.keep (below_drewN (Below.refl _ _) nn)
            go_wp2
            go_meet
            case rel => exact ⟨rfl, hZ2⟩
        case rest =>
        obtain ⟨rfl, hZ2⟩ := hcut
        clear hZ c0 c1 c2 hLr
        obtain ⟨c0, c1, c2⟩ := hZ2.cells
        have hLr := HL.out _ (HG.out _ hZ2.gr)
        cases gd with
        | false =>
          have hYe : Y3 = .ok (P.map (·.1), p', L.drop p') := (by rw [← HI.out]; exact lef_no hgd)
          have hXe : X = .ok (⟨n1, n2, P.map (·.1)⟩, p', L.drop p') := (by rw [← HX3.out, hYe]; rfl)
          subst hXe
          clear hYe hgd HI HX3 hLr
          obtain ⟨y0, y1, y2, yf⟩ := three_cells hZ2.gr HZ.out _ rfl
          obtain ⟨fh, fo, fi, fq, fg⟩ := three_fin hZ2 HG.out HZ.out
          have yf0 := yf 0
          have yf1 := yf 1
          have yf2 := yf 2
          clear yf hZ2
          go_wp2
          exact bodyPost_ret (v := .agg #[.string ⟨n1.toArray⟩, .string ⟨n2.toArray⟩, .slice ho P.length hc]) (results_cell_row rfl _ _ w.heap.size 55 #[.string ⟨n1.toArray⟩, .string ⟨n2.toArray⟩, .slice ho P.length hc] (0, 0) _ rfl fh Tryz.underlying55 rfl (by kernel_rfl)) rfl ⟨_, P, rfl, rfl, fo, fi, fq, fg⟩
        | true =>
          have hf0 := HF.out
          obtain ⟨f', rfl⟩ : ∃ f', f = f' + 1 := ⟨f - 1, by omega⟩
          have hgo := lef_go (f := f') (p := p') hgd
          rw [HI.out] at hgo
          obtain ⟨Yh, hYh⟩ : ∃ Y, cxH P.length p' (L.drop p') = Y := ⟨_, rfl⟩
          rw [hYh] at hgo
          have hZd := hZ2.keep (Below.drew (Below.refl _ _))
          have hch := crhunk_f hPl _ hZd.ck (fun u hu => HL.out u (HG.out _ (grown_two hZd.gr hu))) HPl hp' hLl HSl Yh hYh
          have HYe : Hid (∀ e, Yh = .error e → X = .error e) := (by
            intro e he
            rw [← HX3.out, hgo, he]
            rfl)
          have HN : Hid (∀ h p2 r, Yh = .ok (h, p2, r) → p2 ≤ L.length ∧ p' < p2 ∧ Hid ((L.drop p2).length + 1 ≤ f') ∧ P.length < 4096 ∧ r = L.drop p2) := (by
            intro h p2 r he
            obtain ⟨b1, b2, b3, b4⟩ := cxH_drop hPl (hYh.trans he)
            have := HF.out
            rw [List.length_drop] at this
            exact ⟨b3, b2, (by show _ ≤ _; rw [List.length_drop]; omega), b4, b1⟩)
          have HN2 : Hid (∀ h p2 r y, Yh = .ok (h, p2, r) → Hid (lefH (P ++ [(h, y)]) f' p2 (L.drop p2) = Y3)) := (by
            intro h p2 r y he
            show _ = _
            rw [lef_more, ← (HN.out h p2 r he).2.2.2.2, hgo, he])
          obtain ⟨Pn, hPnd⟩ : ∃ Pn : List PanicEntry → World → Prop, (fun c u => ∃ (g a : Nat) (z : Int), c = [{ v := .iface 86 (.pointer (some ⟨g, 0, none⟩)), recovered := false }] ∧ u.heap[g]? = some (fltO (a : Int) z) ∧ X = .error (a, z) ∧ w.grownBy u (some R)) = Pn := ⟨_, rfl⟩
          obtain ⟨Rr, hRr⟩ : ∃ Rr : Value → World → Prop, (fun v u => ∃ h p2 r vo vc, Yh = .ok (h, p2, r) ∧ v = hkV h (.slice vo h.ls.length vc) ∧ Pzc wb R S (.slice lo L.length lc) n1 n2 (.slice ho P.length hc) P p2 u ∧ u.ownsRow wb.heap.size 103 2 (.slice vo h.ls.length vc) h.ls.length (mkcells h.ls)) = Rr := ⟨_, rfl⟩
          have hcall : Calls Tryz.prog 96 (#[.pointer (some ⟨R, 0, none⟩), .int .i64 (P.length : Int)] ++ #[]) wc.drew fun e w' => (∃ v, e = .returned v ∧ True ∧ Rr v w') ∨ (∃ c, e = .panicked c ∧ Pn c w') := (by
            refine hch.mono ?_
            intro e w' hq
            rw [← hPnd, ← hRr]
            cases Yh with
            | error z =>
              obtain ⟨a, z⟩ := z
              obtain ⟨⟨g, rfl, hg⟩, hgr⟩ := hq
              exact .inr ⟨_, rfl, g, a, z, rfl, hg, HYe.out _ rfl, HG.out _ (grown_two hZd.gr hgr)⟩
            | ok z =>
              obtain ⟨h, p2, r⟩ := z
              obtain ⟨v', rfl, hown, q, hgr⟩ := hq
              obtain ⟨vo, vc, rfl⟩ := (holds_of hown).form
              exact .inl ⟨_, rfl, trivial, h, p2, r, vo, vc, rfl, rfl, hZd.call hgr q, own_base hown hZd.gr.size⟩)
          have HRr : Hid (_ = Rr) := hRr
          have HPd : Hid (_ = Pn) := hPnd
          clear hRr hPnd hch hgo hYh HI hgd hLr
          go_upto_region 9 with fail
          clear c0 c1 c2
          refine wp_region_held_drew (S := fun _ => True) (by kernel_rfl) trivial (fun _ => ?_)
          generalize wc.drew = wd at hZd hcall ⊢
          have c2d := hZd.cells.2.2
          refine go_take 0 38 _ (.pointer (some ⟨S, 2, none⟩)) rfl (by kernel_rfl) (by kernel_rfl) (by kernel_rfl) (by kernel_rfl) (fun _ _ _ h => h) (Or.inl ⟨by kernel_rfl, fun u hu => by kernel_rfl⟩) trivial ?_
          simp only [Act.put, List.setIfInBounds_toArray, List.set_cons_zero, List.set_cons_succ]
          refine go_take 2 40 _ (.pointer (some ⟨R, 0, none⟩)) rfl (by kernel_rfl) (by kernel_rfl) (by kernel_rfl) (by kernel_rfl) (fun _ _ _ h => h) (Or.inl ⟨by kernel_rfl, fun u hu => by kernel_rfl⟩) trivial ?_
          simp only [Act.put, List.setIfInBounds_toArray, List.set_cons_zero, List.set_cons_succ]
          refine go_take 3 41 _ (.pointer (some ⟨S, 2, none⟩)) rfl (by kernel_rfl) (by kernel_rfl) (by kernel_rfl) (by kernel_rfl) (fun _ _ _ h => h) (Or.inl ⟨by kernel_rfl, fun u hu => by kernel_rfl⟩) trivial ?_
          simp only [Act.put, List.setIfInBounds_toArray, List.set_cons_zero, List.set_cons_succ]
          refine go_two 1 39 _ 4 42 _ rfl (by kernel_rfl) rfl (by kernel_rfl) (by kernel_rfl) (by kernel_rfl) (by kernel_rfl) (.slice ho P.length hc) wd (load_hksR c2d (.tmp 38) (by kernel_rfl) (by kernel_rfl)) trivial (.slice ho P.length hc) wd (load_hksR c2d (.tmp 41) (by kernel_rfl) (by kernel_rfl)) trivial ?_ ?_
          · simp only [Act.put, List.setIfInBounds_toArray, List.set_cons_zero, List.set_cons_succ]
            refine go_val 4 42 _ rfl (by kernel_rfl) (by kernel_rfl) (by kernel_rfl) (.slice ho P.length hc) wd (load_hksR c2d (.tmp 41) (by kernel_rfl) (by kernel_rfl)) trivial ?_
            simp only [Act.put, List.setIfInBounds_toArray, List.set_cons_zero, List.set_cons_succ]
            refine go_take 5 43 _ (.int .i64 (P.length : Int)) rfl (by kernel_rfl) (by kernel_rfl) (by kernel_rfl) (by kernel_rfl) (fun _ _ _ h => h) (Or.inl ⟨by kernel_rfl, fun u hu => by kernel_rfl⟩) trivial ?_
            simp only [Act.put, List.setIfInBounds_toArray, List.set_cons_zero, List.set_cons_succ]
            refine go_callR 6 44 _ rfl (by kernel_rfl) (by kernel_rfl) (by kernel_rfl) 96 (.func 96) #[.tmp 40, .tmp 43] #[155, 3] (by kernel_rfl) #[] (by kernel_rfl) #[.pointer (some ⟨R, 0, none⟩), .int .i64 (P.length : Int)] (by kernel_rfl) (enters_of Tryz.func96 (by kernel_rfl) rfl) Rr Pn (fun c u h => by rw [← HPd.out] at h; obtain ⟨g, a, z, rfl, hg, hXe, hgr⟩ := h; subst hXe; exact ⟨rfl, ⟨_, rfl, hg⟩, hgr⟩) ?_ ?_
            · exact hcall
            intro v0 u1 _ hq
            rw [← HRr.out] at hq
            obtain ⟨h, p2, r, vo, vc, hk2, rfl, hR1, hown1⟩ := hq
            have c1u := hR1.cells.2.2
            have hRA := hR1.keep ((Below.refl _ u1).alloc (Nat.le_refl _) (hkO h (.slice vo h.ls.length vc)))
            have c2u := hRA.cells.2.2
            simp only [Act.put, List.setIfInBounds_toArray, List.set_cons_zero, List.set_cons_succ]
            refine go_val 7 45 _ rfl (by kernel_rfl) (by kernel_rfl) (by kernel_rfl) (.slice (some ⟨u1.heap.size, 0, none⟩) 1 1) (u1.alloc (hkO h (.slice vo h.ls.length vc))) (by kernel_rfl) trivial ?_
            simp only [Act.put, List.setIfInBounds_toArray, List.set_cons_zero, List.set_cons_succ]
            have hlt2 := HN.out h p2 r hk2
            have hownA := hown1.alloc (hkO h (.slice vo h.ls.length vc))
            obtain ⟨v3, u3, hr3, hown3, hg3, _⟩ := run_append_w (u1.alloc (hkO h (.slice vo h.ls.length vc))) 34 59 34 (.agg #[.int .i64 0, .int .i64 0, .int .i64 0, .int .i64 0, .slice none 0 0]) 5 56 Tryz.underlying34 infoHk rfl (by decide) (by decide) wb.heap.size _ _ _ hRA.own _ 1 (hkC h (.slice vo h.ls.length vc)) (one_row u1 h (.slice vo h.ls.length vc)) rfl (fun u hu => by simp [hkC] at hu; rcases hu with rfl | rfl | rfl | rfl | rfl <;> rfl) (by omega) hRA.gr.size
            have hR3 := hRA.more hownA hg3 hown3
            obtain ⟨o3, k3, rfl⟩ := (holds_of hown3).form
            refine go_val 8 46 _ rfl (by kernel_rfl) (by kernel_rfl) (by kernel_rfl) (.slice o3 (P.length + 1) k3) u3 (exec_app (.tmp 39) (.tmp 45) (by kernel_rfl) (by kernel_rfl) (by kernel_rfl) hr3) trivial ?_
            simp only [Act.put, List.setIfInBounds_toArray, List.set_cons_zero, List.set_cons_succ]
            refine go_take 9 47 _ (.pointer (some ⟨S, 2, none⟩)) rfl (by kernel_rfl) (by kernel_rfl) (by kernel_rfl) (by kernel_rfl) (fun _ _ _ h => h) (Or.inl ⟨by kernel_rfl, fun u hu => by kernel_rfl⟩) trivial ?_
            simp only [Act.put, List.setIfInBounds_toArray, List.set_cons_zero, List.set_cons_succ]
            refine go_skip 10 _ rfl (by kernel_rfl) (by kernel_rfl) (by kernel_rfl) (u3.setCell ⟨S, 2, none⟩ (.slice o3 (P.length + 1) k3)) (exec_storeHR hR3.2.1 hR3.2.2 (.tmp 47) (.tmp 46) (by kernel_rfl) (by kernel_rfl) (by kernel_rfl)) trivial ?_
            refine wpAnyH_done (by kernel_rfl) ?_ _
            have hR4 := hR3.1
            go_wp2
            refine ⟨⟨_, P ++ [(h, .slice vo h.ls.length vc)], p2, f', ⟨o3, k3, by rw [List.length_append]; rfl⟩, hR4, hlt2.1, by rw [List.length_append]; simp; omega, hlt2.2.2.1, HN2.out h p2 r _ hk2⟩, ?_⟩
            rw [ckN_of hR4.ck, HK.out]
            omega

          · simp only [Act.put, List.setIfInBounds_toArray, List.set_cons_zero, List.set_cons_succ]
            refine go_take 5 43 _ (.int .i64 (P.length : Int)) rfl (by kernel_rfl) (by kernel_rfl) (by kernel_rfl) (by kernel_rfl) (fun _ _ _ h => h) (Or.inl ⟨by kernel_rfl, fun u hu => by kernel_rfl⟩) trivial ?_
            simp only [Act.put, List.setIfInBounds_toArray, List.set_cons_zero, List.set_cons_succ]
            refine go_valCallR 1 39 _ 6 44 _ rfl (by kernel_rfl) rfl (by kernel_rfl) (by kernel_rfl) (by kernel_rfl) (by kernel_rfl) (.slice ho P.length hc) wd (load_hksR c2d (.tmp 38) (by kernel_rfl) (by kernel_rfl)) trivial 96 (.func 96) #[.tmp 40, .tmp 43] #[155, 3] (by kernel_rfl) #[] (by kernel_rfl) #[.pointer (some ⟨R, 0, none⟩), .int .i64 (P.length : Int)] (by kernel_rfl) (enters_of Tryz.func96 (by kernel_rfl) rfl) Rr Pn (fun c u h => by rw [← HPd.out] at h; obtain ⟨g, a, z, rfl, hg, hXe, hgr⟩ := h; subst hXe; exact ⟨rfl, ⟨_, rfl, hg⟩, hgr⟩) ?_ ?_ ?_
            · exact hcall
            · simp only [Act.put, List.setIfInBounds_toArray, List.set_cons_zero, List.set_cons_succ]
              refine go_callR 6 44 _ rfl (by kernel_rfl) (by kernel_rfl) (by kernel_rfl) 96 (.func 96) #[.tmp 40, .tmp 43] #[155, 3] (by kernel_rfl) #[] (by kernel_rfl) #[.pointer (some ⟨R, 0, none⟩), .int .i64 (P.length : Int)] (by kernel_rfl) (enters_of Tryz.func96 (by kernel_rfl) rfl) Rr Pn (fun c u h => by rw [← HPd.out] at h; obtain ⟨g, a, z, rfl, hg, hXe, hgr⟩ := h; subst hXe; exact ⟨rfl, ⟨_, rfl, hg⟩, hgr⟩) ?_ ?_
              · exact hcall
              intro v0 u1 _ hq
              rw [← HRr.out] at hq
              obtain ⟨h, p2, r, vo, vc, hk2, rfl, hR1, hown1⟩ := hq
              have c1u := hR1.cells.2.2
              have hRA := hR1.keep ((Below.refl _ u1).alloc (Nat.le_refl _) (hkO h (.slice vo h.ls.length vc)))
              have c2u := hRA.cells.2.2
              simp only [Act.put, List.setIfInBounds_toArray, List.set_cons_zero, List.set_cons_succ]
              refine go_val 7 45 _ rfl (by kernel_rfl) (by kernel_rfl) (by kernel_rfl) (.slice (some ⟨u1.heap.size, 0, none⟩) 1 1) (u1.alloc (hkO h (.slice vo h.ls.length vc))) (by kernel_rfl) trivial ?_
              simp only [Act.put, List.setIfInBounds_toArray, List.set_cons_zero, List.set_cons_succ]
              have hlt2 := HN.out h p2 r hk2
              have hownA := hown1.alloc (hkO h (.slice vo h.ls.length vc))
              obtain ⟨v3, u3, hr3, hown3, hg3, _⟩ := run_append_w (u1.alloc (hkO h (.slice vo h.ls.length vc))) 34 59 34 (.agg #[.int .i64 0, .int .i64 0, .int .i64 0, .int .i64 0, .slice none 0 0]) 5 56 Tryz.underlying34 infoHk rfl (by decide) (by decide) wb.heap.size _ _ _ hRA.own _ 1 (hkC h (.slice vo h.ls.length vc)) (one_row u1 h (.slice vo h.ls.length vc)) rfl (fun u hu => by simp [hkC] at hu; rcases hu with rfl | rfl | rfl | rfl | rfl <;> rfl) (by omega) hRA.gr.size
              have hR3 := hRA.more hownA hg3 hown3
              obtain ⟨o3, k3, rfl⟩ := (holds_of hown3).form
              refine go_val 8 46 _ rfl (by kernel_rfl) (by kernel_rfl) (by kernel_rfl) (.slice o3 (P.length + 1) k3) u3 (exec_app (.tmp 39) (.tmp 45) (by kernel_rfl) (by kernel_rfl) (by kernel_rfl) hr3) trivial ?_
              simp only [Act.put, List.setIfInBounds_toArray, List.set_cons_zero, List.set_cons_succ]
              refine go_take 9 47 _ (.pointer (some ⟨S, 2, none⟩)) rfl (by kernel_rfl) (by kernel_rfl) (by kernel_rfl) (by kernel_rfl) (fun _ _ _ h => h) (Or.inl ⟨by kernel_rfl, fun u hu => by kernel_rfl⟩) trivial ?_
              simp only [Act.put, List.setIfInBounds_toArray, List.set_cons_zero, List.set_cons_succ]
              refine go_skip 10 _ rfl (by kernel_rfl) (by kernel_rfl) (by kernel_rfl) (u3.setCell ⟨S, 2, none⟩ (.slice o3 (P.length + 1) k3)) (exec_storeHR hR3.2.1 hR3.2.2 (.tmp 47) (.tmp 46) (by kernel_rfl) (by kernel_rfl) (by kernel_rfl)) trivial ?_
              refine wpAnyH_done (by kernel_rfl) ?_ _
              have hR4 := hR3.1
              go_wp2
              refine ⟨⟨_, P ++ [(h, .slice vo h.ls.length vc)], p2, f', ⟨o3, k3, by rw [List.length_append]; rfl⟩, hR4, hlt2.1, by rw [List.length_append]; simp; omega, hlt2.2.2.1, HN2.out h p2 r _ hk2⟩, ?_⟩
              rw [ckN_of hR4.ck, HK.out]
              omega

            · intro v0 u1 _ hq
              rw [← HRr.out] at hq
              obtain ⟨h, p2, r, vo, vc, hk2, rfl, hR1, hown1⟩ := hq
              have c1u := hR1.cells.2.2
              have hRA := hR1.keep ((Below.refl _ u1).alloc (Nat.le_refl _) (hkO h (.slice vo h.ls.length vc)))
              have c2u := hRA.cells.2.2
              simp only [Act.put, List.setIfInBounds_toArray, List.set_cons_zero, List.set_cons_succ]
              refine go_two 1 39 _ 7 45 _ rfl (by kernel_rfl) rfl (by kernel_rfl) (by kernel_rfl) (by kernel_rfl) (by kernel_rfl) (.slice ho P.length hc) u1 (load_hksR c1u (.tmp 38) (by kernel_rfl) (by kernel_rfl)) trivial (.slice (some ⟨u1.heap.size, 0, none⟩) 1 1) (u1.alloc (hkO h (.slice vo h.ls.length vc))) (by kernel_rfl) trivial ?_ ?_
              · simp only [Act.put, List.setIfInBounds_toArray, List.set_cons_zero, List.set_cons_succ]
                refine go_val 7 45 _ rfl (by kernel_rfl) (by kernel_rfl) (by kernel_rfl) (.slice (some ⟨u1.heap.size, 0, none⟩) 1 1) (u1.alloc (hkO h (.slice vo h.ls.length vc))) (by kernel_rfl) trivial ?_
                simp only [Act.put, List.setIfInBounds_toArray, List.set_cons_zero, List.set_cons_succ]
                have hlt2 := HN.out h p2 r hk2
                have hownA := hown1.alloc (hkO h (.slice vo h.ls.length vc))
                obtain ⟨v3, u3, hr3, hown3, hg3, _⟩ := run_append_w (u1.alloc (hkO h (.slice vo h.ls.length vc))) 34 59 34 (.agg #[.int .i64 0, .int .i64 0, .int .i64 0, .int .i64 0, .slice none 0 0]) 5 56 Tryz.underlying34 infoHk rfl (by decide) (by decide) wb.heap.size _ _ _ hRA.own _ 1 (hkC h (.slice vo h.ls.length vc)) (one_row u1 h (.slice vo h.ls.length vc)) rfl (fun u hu => by simp [hkC] at hu; rcases hu with rfl | rfl | rfl | rfl | rfl <;> rfl) (by omega) hRA.gr.size
                have hR3 := hRA.more hownA hg3 hown3
                obtain ⟨o3, k3, rfl⟩ := (holds_of hown3).form
                refine go_val 8 46 _ rfl (by kernel_rfl) (by kernel_rfl) (by kernel_rfl) (.slice o3 (P.length + 1) k3) u3 (exec_app (.tmp 39) (.tmp 45) (by kernel_rfl) (by kernel_rfl) (by kernel_rfl) hr3) trivial ?_
                simp only [Act.put, List.setIfInBounds_toArray, List.set_cons_zero, List.set_cons_succ]
                refine go_take 9 47 _ (.pointer (some ⟨S, 2, none⟩)) rfl (by kernel_rfl) (by kernel_rfl) (by kernel_rfl) (by kernel_rfl) (fun _ _ _ h => h) (Or.inl ⟨by kernel_rfl, fun u hu => by kernel_rfl⟩) trivial ?_
                simp only [Act.put, List.setIfInBounds_toArray, List.set_cons_zero, List.set_cons_succ]
                refine go_skip 10 _ rfl (by kernel_rfl) (by kernel_rfl) (by kernel_rfl) (u3.setCell ⟨S, 2, none⟩ (.slice o3 (P.length + 1) k3)) (exec_storeHR hR3.2.1 hR3.2.2 (.tmp 47) (.tmp 46) (by kernel_rfl) (by kernel_rfl) (by kernel_rfl)) trivial ?_
                refine wpAnyH_done (by kernel_rfl) ?_ _
                have hR4 := hR3.1
                go_wp2
                refine ⟨⟨_, P ++ [(h, .slice vo h.ls.length vc)], p2, f', ⟨o3, k3, by rw [List.length_append]; rfl⟩, hR4, hlt2.1, by rw [List.length_append]; simp; omega, hlt2.2.2.1, HN2.out h p2 r _ hk2⟩, ?_⟩
                rw [ckN_of hR4.ck, HK.out]
                omega

              · simp only [Act.put, List.setIfInBounds_toArray, List.set_cons_zero, List.set_cons_succ]
                refine go_val 1 39 _ rfl (by kernel_rfl) (by kernel_rfl) (by kernel_rfl) (.slice ho P.length hc) (u1.alloc (hkO h (.slice vo h.ls.length vc))) (load_hksR c2u (.tmp 38) (by kernel_rfl) (by kernel_rfl)) trivial ?_
                simp only [Act.put, List.setIfInBounds_toArray, List.set_cons_zero, List.set_cons_succ]
                have hlt2 := HN.out h p2 r hk2
                have hownA := hown1.alloc (hkO h (.slice vo h.ls.length vc))
                obtain ⟨v3, u3, hr3, hown3, hg3, _⟩ := run_append_w (u1.alloc (hkO h (.slice vo h.ls.length vc))) 34 59 34 (.agg #[.int .i64 0, .int .i64 0, .int .i64 0, .int .i64 0, .slice none 0 0]) 5 56 Tryz.underlying34 infoHk rfl (by decide) (by decide) wb.heap.size _ _ _ hRA.own _ 1 (hkC h (.slice vo h.ls.length vc)) (one_row u1 h (.slice vo h.ls.length vc)) rfl (fun u hu => by simp [hkC] at hu; rcases hu with rfl | rfl | rfl | rfl | rfl <;> rfl) (by omega) hRA.gr.size
                have hR3 := hRA.more hownA hg3 hown3
                obtain ⟨o3, k3, rfl⟩ := (holds_of hown3).form
                refine go_val 8 46 _ rfl (by kernel_rfl) (by kernel_rfl) (by kernel_rfl) (.slice o3 (P.length + 1) k3) u3 (exec_app (.tmp 39) (.tmp 45) (by kernel_rfl) (by kernel_rfl) (by kernel_rfl) hr3) trivial ?_
                simp only [Act.put, List.setIfInBounds_toArray, List.set_cons_zero, List.set_cons_succ]
                refine go_take 9 47 _ (.pointer (some ⟨S, 2, none⟩)) rfl (by kernel_rfl) (by kernel_rfl) (by kernel_rfl) (by kernel_rfl) (fun _ _ _ h => h) (Or.inl ⟨by kernel_rfl, fun u hu => by kernel_rfl⟩) trivial ?_
                simp only [Act.put, List.setIfInBounds_toArray, List.set_cons_zero, List.set_cons_succ]
                refine go_skip 10 _ rfl (by kernel_rfl) (by kernel_rfl) (by kernel_rfl) (u3.setCell ⟨S, 2, none⟩ (.slice o3 (P.length + 1) k3)) (exec_storeHR hR3.2.1 hR3.2.2 (.tmp 47) (.tmp 46) (by kernel_rfl) (by kernel_rfl) (by kernel_rfl)) trivial ?_
                refine wpAnyH_done (by kernel_rfl) ?_ _
                have hR4 := hR3.1
                go_wp2
                refine ⟨⟨_, P ++ [(h, .slice vo h.ls.length vc)], p2, f', ⟨o3, k3, by rw [List.length_append]; rfl⟩, hR4, hlt2.1, by rw [List.length_append]; simp; omega, hlt2.2.2.1, HN2.out h p2 r _ hk2⟩, ?_⟩
                rw [ckN_of hR4.ck, HK.out]
                omega
end Go.Proofs.YtgiojkhmkeocfaaGreatDoor

/- The code's Parse of layer 15: what is thrown is caught. -/
set_option maxRecDepth 20000
namespace Go.Proofs.YtgiojkhmkeocfaaGreatDoor
open Go.RowKit

theorem catch_idleC (p q : Addr) (w : World) :
    CallsD Tryz.prog 50 #[.pointer (some p), .pointer (some q)] .returning w fun e u' w' => e = .returned (.tuple #[]) ∧ u' = .returning ∧ w' = w := by
  refine callsD_of_wpS Tryz.func50 rfl fun c₀ cs hu => ?_
  apply wpS_seq
  apply wpS_region
  simp [wpOpsS, go_sem, recoverD, hu, Tryz.ntmps50, Exit.thenS]
  apply wpS_seq
  apply wpS_region
  simp [wpOpsS, go_sem, Exit.thenS]
  refine wpS_cond (t := false) (by simp [Act.eval, Array.replicate]) ?_
  simp only [Bool.false_eq_true, if_false]
  refine wpS_of_wp (wp_skip ?_)
  cases c₀
  simp_all [bodyPostS, results, Tryz.results50]
set_option maxHeartbeats 2000000 in
theorem catch_faultC (F0 F1 g : Nat) (v0 v1 : Value) (older : List PanicEntry) (w : World) (h01 : F0 ≠ F1) (c0 : w.cell? ⟨F0, 0, none⟩ = some v0) (f0 : w.frozen? ⟨F0, 0, none⟩ = false) (c1 : w.cell? ⟨F1, 0, none⟩ = some v1) (f1 : w.frozen? ⟨F1, 0, none⟩ = false) :
    CallsD Tryz.prog 50 #[.pointer (some ⟨F0, 0, none⟩), .pointer (some ⟨F1, 0, none⟩)] (.panicking ({ v := .iface 86 (.pointer (some ⟨g, 0, none⟩)), recovered := false } :: older)) w fun e u' w' => e = .returned (.tuple #[]) ∧ u' = .panicking ({ v := .iface 86 (.pointer (some ⟨g, 0, none⟩)), recovered := true } :: older) ∧ w' = ((w.setCell ⟨F0, 0, none⟩ (.slice none 0 0)).setCell ⟨F1, 0, none⟩ (.iface 86 (.pointer (some ⟨g, 0, none⟩)))).drew := by
  refine callsD_of_wpS Tryz.func50 rfl fun c₀ cs hu => ?_
  apply wpS_seq
  apply wpS_region
  simp [wpOpsS, go_sem, recoverD, hu, Tryz.ntmps50, Exit.thenS]
  apply wpS_seq
  apply wpS_region
  simp [wpOpsS, go_sem, Exit.thenS]
  refine wpS_cond (t := true) (by simp [Act.eval, Array.replicate]) ?_
  simp only [if_true]
  refine wpS_of_wp ?_
  have hta : ∀ (v : Value) (u : World), (Instr.typeAssert (.iface 86 v) 20 86 false).run Tryz.prog u = .ok v u := fun _ _ => by kernel_rfl
  generalize hA : ({ tmps := _, defers := [] } : Act) = A
  have hA2 : A = { tmps := #[.pointer (some ⟨F0, 0, none⟩), .pointer (some ⟨F1, 0, none⟩), .iface 86 (.pointer (some ⟨g, 0, none⟩)), .iface 86 (.pointer (some ⟨g, 0, none⟩)), .iface 86 (.pointer (some ⟨g, 0, none⟩)), .bool true, undef, undef, undef], defers := [] } := hA.symm.trans rfl
  subst hA2
  clear hA
  go_region
  cases c₀
  simp_all [bodyPostS, results, Tryz.results50]
/-- a post that says of a panic what it leaves in memory and in three places of the frame -/
def PanC (Q : Exit → Act → World → Prop) (Pn : List PanicEntry → World → Prop) (p2 p3 : Value) (ds : List Deferred) : Exit → Act → World → Prop
  | .panic c, a, w => Pn c w ∧ a.tmps.getD 2 undef = p2 ∧ a.tmps.getD 3 undef = p3 ∧ a.defers = ds
  | .normal, a, w => Q .normal a w
  | _, _, _ => False
theorem PanC.normal {Q : Exit → Act → World → Prop} {Pn : List PanicEntry → World → Prop} {p2 p3 : Value} {ds : List Deferred} {a : Act} {w : World} (h : Q .normal a w) : PanC Q Pn p2 p3 ds .normal a w := h
theorem wp_region_panC {P : Program} {id : Nat} {ops : Array Oper} {b : Bool} {Q : Exit → Act → World → Prop} {a : Act} {w : World} (Pn : List PanicEntry → World → Prop) (p2 p3 : Value) (ds : List Deferred) (hP : ∀ c a w, Pn c w → a.tmps.getD 2 undef = p2 → a.tmps.getD 3 undef = p3 → a.defers = ds → Q (.panic c) a w) (h : (Code.region id ops b).wp P (PanC Q Pn p2 p3 ds) a w) : (Code.region id ops b).wp P Q a w := by
  refine Code.wp_mono (fun e a w h => ?_) h
  cases e with
  | panic c => exact hP c a w h.1 h.2.1 h.2.2.1 h.2.2.2
  | normal => exact h
  | _ => exact (h : False).elim
theorem panC_put {Q : Exit → Act → World → Prop} {Pn : List PanicEntry → World → Prop} {p2 p3 : Value} {ds : List Deferred} {d : Nat} {v : Value} (h2 : d ≠ 2) (h3 : d ≠ 3) : ∀ c a w, PanC Q Pn p2 p3 ds (.panic c) (a.put (some d) v) w → PanC Q Pn p2 p3 ds (.panic c) a w := by
  rintro c a w ⟨x1, x2, x3, x4⟩
  refine ⟨x1, ?_, ?_, x4⟩
  · rw [← x2]
    simp [Act.put, Array.getD_eq_getD_getElem?, Array.getElem?_setIfInBounds_ne h2]
  · rw [← x3]
    simp [Act.put, Array.getD_eq_getD_getElem?, Array.getElem?_setIfInBounds_ne h3]
theorem rd_resultsC (tmps : Array Value) (u : World) (F0 F1 n c : Nat) (o : Option Addr) (v1 : Value) (h2 : tmps.getD 2 undef = .pointer (some ⟨F0, 0, none⟩)) (h3 : tmps.getD 3 undef = .pointer (some ⟨F1, 0, none⟩)) (c0 : u.cell? ⟨F0, 0, none⟩ = some (.slice o n c)) (c1 : u.cell? ⟨F1, 0, none⟩ = some v1) :
    (results Tryz.f20 tmps).run Tryz.prog u = .ok (.tuple #[.slice o n c, v1]) u := by
  have hL0 : (loadVar 48 ⟨F0, 0, none⟩).run Tryz.prog u = .ok (.slice o n c) u := by
    simp [loadVar, isAgg, underlying, Tryz.underlying48, c0, Result.andThen]
  have hL1 : (loadVar 36 ⟨F1, 0, none⟩).run Tryz.prog u = .ok v1 u := by
    simp [loadVar, isAgg, underlying, Tryz.underlying36, c1, Result.andThen]
  have e2 : tmps[2]?.getD undef = .pointer (some ⟨F0, 0, none⟩) := by rw [← h2]; simp
  have e3 : tmps[3]?.getD undef = .pointer (some ⟨F1, 0, none⟩) := by rw [← h3]; simp
  simp [results, Tryz.results20, e2, e3, asAddr, hL0, hL1, Result.andThen]
end Go.Proofs.YtgiojkhmkeocfaaGreatDoor

/- The lines of a text: Split of layer lines and of the reference, walked anew over the normal form's texts. -/
set_option maxRecDepth 20000
namespace Go.Proofs.YtgiojkhmkeocfaaGreatDoor
open Ln Go.RowKit
attribute [local go_sem] no_at ByteArray.extract_mk

theorem sc_snoc (ws : List (List UInt8)) (a : List UInt8) : scells (ws ++ [a]) = scells ws ++ [.string ⟨a.toArray⟩] := by simp [scells]
theorem sp_one (a : ByteArray) : ∀ u ∈ [Value.string a], u.oneCell' = true := by intro u hu; simp at hu; subst hu; rfl
theorem sp_cells (w : World) (C : List Value) (t : TypeId) : ∀ j u, C[j]? = some u → (w.alloc (.cells C.toArray t)).cell? ((⟨w.heap.size, 0, none⟩ : Addr).add j) = some u := by
  intro j u hj
  have hadd : (⟨w.heap.size, 0, none⟩ : Addr).add j = ⟨w.heap.size, j, none⟩ := by unfold Addr.add; split <;> simp_all
  rw [hadd, cell_of_row _ w.heap.size j C.toArray t (0, 0) (_root_.Go.heap_alloc_new w _)]
  simpa using hj

theorem sp_is10 {x : UInt8} (h : x = 10) : ((x.toNat : Int) == 10) = true ∧ ((x.toNat : Int) != 10) = false := by subst h; exact ⟨rfl, rfl⟩
theorem sp_not10 {x : UInt8} (h : x ≠ 10) : ((x.toNat : Int) == 10) = false ∧ ((x.toNat : Int) != 10) = true := by
  have h1 : x.toNat ≠ 10 := fun e => h (UInt8.toNat_inj.1 (by simpa using e))
  have h2 : ((x.toNat : Int) == 10) = false := beq_eq_false_iff_ne.2 (by omega)
  exact ⟨h2, by unfold bne; rw [h2]; rfl⟩

def sizeT : Value → Nat
  | .string s => s.size
  | _ => 0
theorem sizeT_mk (r : List UInt8) : sizeT (.string ⟨r.toArray⟩) = r.length := rfl
theorem acc_le {acc : List (List UInt8)} {r l : List UInt8} (h : acc ++ splitL r = splitL l) : acc.length ≤ l.length := by
  have h1 := congrArg List.length h
  have h2 := split_len l
  rw [List.length_append] at h1
  omega

set_option maxRecDepth 20000 in
set_option maxHeartbeats 2000000 in
theorem nSplit_f (l : List UInt8) (w : World) (hl : l.length ≤ 1099511627776) :
    Calls Tryz.prog 12 #[.string ⟨l.toArray⟩] w fun e w' => ∃ v, e = .returned v ∧ w'.ownsRow w.heap.size 9 1 v (splitL l).length (scells (splitL l)) ∧ Below w.heap.size w w' := by
  obtain ⟨i0, hi, hz0, hz1, hz2⟩ := info_parts infoStr
  go_enter Tryz.func12, Tryz.ntmps12
  go_wp2
  go_loopw [0, 3, 4] (fun s acc _ wr => ∃ (xs : List (List UInt8)) (r : List UInt8), s = .string ⟨r.toArray⟩ ∧ wr.ownsRow w.heap.size 9 1 acc xs.length (scells xs) ∧ Below w.heap.size w wr ∧ r.length ≤ l.length ∧ xs ++ splitL r = splitL l) (fun s _ _ _ => sizeT s)
  case atStart => exact ⟨[], l, rfl, World.ownsRow_nil _ _ _ _, Below.refl _ _, Nat.le_refl _, rfl⟩
  case round =>
    obtain ⟨acc, r, rfl, hown, hbr, hrl, hw⟩ := hrel
    have hacc := acc_le hw
    have HW : Hid (acc ++ splitL r = splitL l) := hw
    clear hw
    have hbz := hbr.size
    obtain ⟨ao, cap, rfl⟩ := (holds_of hown).form
    rcases Int.lt_or_le (Lib.indexByte r 10) 0 with hq | hq
    · obtain ⟨q1, q2⟩ := index_none hq
      clear hq
      cases r with
      | nil =>
        have HE : Hid (splitL l = acc) := by have := HW.out; show _ = _; simpa [splitL] using this.symm
        go_wp2_with fail
        refine (Tryz.strings_Index_one ⟨([] : List UInt8).toArray⟩ 10 _).mono ?_
        rintro e w1 ⟨rfl, rfl⟩
        go_wp2
        go_ret
        rw [HE.out]
        exact ⟨_, rfl, hown, hbr⟩
      | cons c t =>
        have HE : Hid (splitL l = acc ++ [c :: t]) := by
          have := HW.out
          rw [split_one _ q2 (by simp)] at this
          exact this.symm
        clear q2
        go_wp2_with fail
        refine (Tryz.strings_Index_one ⟨(c :: t).toArray⟩ 10 _).mono ?_
        rintro e w1 ⟨rfl, rfl⟩
        have hi2 : Lib.indexByte (⟨(c :: t).toArray⟩ : ByteArray).data.toList 10 = -1 := q1
        rw [hi2]
        go_wp2_with (at_builtin; refine wpList_append_own _ rfl _ _ 23 rfl w.heap.size 9 i0 (.string ⟨#[]⟩) 1 16 Tryz.underlying23 hi hz0 hz1 hz2 rfl (by decide) _ _ _ rfl (hown.alloc _) ⟨w1.heap.size, 0, none⟩ 1 1 [.string ⟨(c :: t).toArray⟩] rfl rfl (sp_cells _ _ _) (sp_one _) ?c3 ?c4 ?c5 ?_)
        case c3 => unfold maxLen; omega
        case c4 => omega
        case c5 => simp; omega
        intro v' w3 hown3 hgrow hfr
        have hbr3 := (hbr.alloc hbz (.cells #[.string ⟨(c :: t).toArray⟩] 9)).grown hgrow (by simp; omega) (fun j hj => (hown.lt j hj).1)
        go_wp2
        go_ret
        rw [HE.out, sc_snoc]
        exact ⟨_, rfl, by simpa using hown3, hbr3⟩
    · obtain ⟨a, b, rfl, hn, he⟩ := index_some hq
      have HE : Hid (acc ++ [a ++ [10]] ++ splitL b = splitL l) := by
        have := HW.out
        rw [split_cut a b hn] at this
        show _ = _
        simpa using this
      clear hn hq
      have hlen : (a ++ 10 :: b).length = a.length + 1 + b.length := by simp; omega
      have ht : (a ++ 10 :: b).take (a.length + 1) = a ++ [10] := by
        rw [show a ++ 10 :: b = (a ++ [10]) ++ b by simp, List.take_left' (by simp)]
      have hd : (a ++ 10 :: b).drop (a.length + 1) = b := by
        rw [show a ++ 10 :: b = (a ++ [10]) ++ b by simp, List.drop_left' (by simp)]
      generalize a ++ 10 :: b = r at *
      have i1 : 0 ≤ (a.length : Int) + 1 := by omega
      have i2 : (a.length : Int) + 1 ≤ (r.length : Int) := by omega
      have i3 : ((a.length : Int) + 1).toNat = a.length + 1 := by omega
      go_wp2_with fail
      refine (Tryz.strings_Index_one ⟨r.toArray⟩ 10 _).mono ?_
      rintro e w1 ⟨rfl, rfl⟩
      have hi2 : Lib.indexByte (⟨r.toArray⟩ : ByteArray).data.toList 10 = a.length := he
      rw [hi2]
      go_wp2_with (at_builtin; refine wpList_append_own _ rfl _ _ 23 rfl w.heap.size 9 i0 (.string ⟨#[]⟩) 1 16 Tryz.underlying23 hi hz0 hz1 hz2 rfl (by decide) _ _ _ rfl (hown.alloc _) ⟨w1.heap.size, 0, none⟩ 1 1 [.string ⟨(a ++ [10]).toArray⟩] rfl rfl (sp_cells _ _ _) (sp_one _) ?c3 ?c4 ?c5 ?_)
      case c3 => unfold maxLen; omega
      case c4 => omega
      case c5 => simp; omega
      intro v' w3 hown3 hgrow hfr
      have hbr3 := (hbr.alloc hbz (.cells #[.string ⟨(a ++ [10]).toArray⟩] 9)).grown hgrow (by simp; omega) (fun j hj => (hown.lt j hj).1)
      go_wp2
      go_roundw
      case rel => exact ⟨acc ++ [a ++ [10]], b, rfl, by rw [sc_snoc]; simpa using hown3, hbr3, by omega, HE.out⟩
      case measure => rw [sizeT_mk, sizeT_mk]; omega
def Clean (l : List UInt8) (p k : Nat) : Prop := ∀ c ∈ (l.drop p).take (k - p), c ≠ 10

theorem clean_refl (l : List UInt8) (k : Nat) : Clean l k k := by intro c hc; simp at hc
theorem clean_step {l : List UInt8} {p k : Nat} (h : Clean l p k) (hp : p ≤ k) (hk : k < l.length) (h10 : l[k] ≠ 10) : Clean l p (k + 1) := by
  intro c hc
  rw [show k + 1 - p = (k - p) + 1 by omega, List.take_succ_eq_append_getElem (by simp; omega)] at hc
  simp only [List.mem_append, List.mem_singleton] at hc
  rcases hc with hc | hc
  · exact h c hc
  · rw [hc]
    simpa [show p + (k - p) = k by omega] using h10
theorem clean_feed {l : List UInt8} {p k : Nat} (h : Clean l p k) (hp : p ≤ k) (hk : k < l.length) (h10 : l[k] = 10) : splitL (l.drop p) = (l.drop p).take (k + 1 - p) :: splitL (l.drop (k + 1)) := by
  have e : l.drop p = (l.drop p).take (k - p) ++ 10 :: l.drop (k + 1) := by
    have h1 := (List.take_append_drop (k - p) (l.drop p)).symm
    rw [List.drop_drop, show p + (k - p) = k by omega, List.drop_eq_getElem_cons hk, h10] at h1
    exact h1
  have e2 : (l.drop p).take (k + 1 - p) = (l.drop p).take (k - p) ++ [10] := by
    rw [show k + 1 - p = (k - p) + 1 by omega, List.take_succ_eq_append_getElem (by simp; omega)]
    simp [show p + (k - p) = k by omega, h10]
  rw [e2]
  conv => lhs; rw [e]
  exact split_cut _ _ h
theorem clean_end {l : List UInt8} {p : Nat} (h : Clean l p l.length) (hp : p < l.length) : splitL (l.drop p) = [l.drop p] := by
  refine split_one _ (fun c hc => h c ?_) (by intro e; have := congrArg List.length e; simp at this; omega)
  rw [List.take_of_length_le (by simp)]
  exact hc

set_option maxHeartbeats 2000000 in
theorem rSplit_f (l : List UInt8) (w : World) (hl : l.length ≤ 1099511627776) :
    Calls Tryz.prog 97 #[.string ⟨l.toArray⟩] w fun e w' => ∃ v, e = .returned v ∧ w'.ownsRow w.heap.size 9 1 v (splitL l).length (scells (splitL l)) ∧ Below w.heap.size w w' := by
  obtain ⟨i0, hi, hz0, hz1, hz2⟩ := info_parts infoStr
  go_enter Tryz.func97, Tryz.ntmps97
  go_wp2
  go_loopw [3, 4, 5] (fun acc ap i wr => ∃ (xs : List (List UInt8)) (p k : Nat), p ≤ k ∧ k ≤ l.length ∧ ap = .int .i64 p ∧ i = .int .i64 k ∧ wr.ownsRow w.heap.size 9 1 acc xs.length (scells xs) ∧ Below w.heap.size w wr ∧ Hid (Clean l p k) ∧ Hid (xs ++ splitL (l.drop p) = splitL l)) (fun _ _ i _ => l.length - (intOf i).toNat)
  case atStart => exact ⟨[], 0, 0, Nat.le_refl _, Nat.zero_le _, rfl, rfl, World.ownsRow_nil _ _ _ _, Below.refl _ _, clean_refl _ _, rfl⟩
  case round =>
    obtain ⟨acc, p, k, hp, hk, rfl, rfl, hown, hbr, HC, HW⟩ := hrel
    have hacc := acc_le HW.out
    have hbz := hbr.size
    obtain ⟨ao, cap, rfl⟩ := (holds_of hown).form
    by_cases hlt : k < l.length
    · by_cases h10 : l[k] = 10
      · have hb := (sp_is10 h10).1
        have HE : Hid (acc ++ [(l.drop p).take (k + 1 - p)] ++ splitL (l.drop (k + 1)) = splitL l) := by
          have := HW.out
          rw [clean_feed HC.out hp hlt h10] at this
          show _ = _
          simpa using this
        clear h10
        go_wp2_with (at_builtin; refine wpList_append_own _ rfl _ _ 23 rfl w.heap.size 9 i0 (.string ⟨#[]⟩) 1 16 Tryz.underlying23 hi hz0 hz1 hz2 rfl (by decide) _ _ _ rfl (hown.alloc _) ⟨wr.heap.size, 0, none⟩ 1 1 [.string ⟨((l.drop p).take (k + 1 - p)).toArray⟩] rfl rfl (sp_cells _ _ _) (sp_one _) ?c3 ?c4 ?c5 ?_)
        case c3 => unfold maxLen; omega
        case c4 => omega
        case c5 => simp; omega
        intro v' w3 hown3 hgrow hfr
        have hbr3 := (hbr.alloc hbz (.cells #[.string ⟨((l.drop p).take (k + 1 - p)).toArray⟩] 9)).grown hgrow (by simp; omega) (fun j hj => (hown.lt j hj).1)
        go_wp2
        go_roundw
        case rel => exact ⟨acc ++ [(l.drop p).take (k + 1 - p)], k + 1, k + 1, Nat.le_refl _, by omega, by go_num, by go_num, by rw [sc_snoc]; simpa using hown3, hbr3, clean_refl _ _, HE.out⟩
        case measure => simp [intOf]; omega
      · have hb := (sp_not10 h10).1
        have HD : Hid (Clean l p (k + 1)) := clean_step HC.out hp hlt h10
        clear h10
        go_wp2
        go_roundw
        case rel => exact ⟨acc, p, k + 1, by omega, by omega, rfl, by go_num, hown, hbr, HD, HW⟩
        case measure => simp [intOf]; omega
    · have hke : k = l.length := by omega
      subst hke
      by_cases hpl : p < l.length
      · have HE : Hid (splitL l = acc ++ [(l.drop p).take (l.length - p)]) := by
          have := HW.out
          rw [clean_end HC.out hpl] at this
          show _ = _
          rw [List.take_of_length_le (by simp)]
          exact this.symm
        go_wp2_with (at_builtin; refine wpList_append_own _ rfl _ _ 23 rfl w.heap.size 9 i0 (.string ⟨#[]⟩) 1 16 Tryz.underlying23 hi hz0 hz1 hz2 rfl (by decide) _ _ _ rfl (hown.alloc _) ⟨wr.heap.size, 0, none⟩ 1 1 [.string ⟨((l.drop p).take (l.length - p)).toArray⟩] rfl rfl (sp_cells _ _ _) (sp_one _) ?c3 ?c4 ?c5 ?_)
        case c3 => unfold maxLen; omega
        case c4 => omega
        case c5 => simp; omega
        intro v' w3 hown3 hgrow hfr
        have hbr3 := (hbr.alloc hbz (.cells #[.string ⟨((l.drop p).take (l.length - p)).toArray⟩] 9)).grown hgrow (by simp; omega) (fun j hj => (hown.lt j hj).1)
        go_wp2
        go_ret
        rw [HE.out, sc_snoc]
        exact ⟨_, rfl, by simpa using hown3, hbr3⟩
      · have HE : Hid (splitL l = acc) := by
          have := HW.out
          rw [List.drop_of_length_le (by omega)] at this
          show _ = _
          simpa [splitL] using this.symm
        go_wp2
        go_ret
        rw [HE.out]
        exact ⟨_, rfl, hown, hbr⟩
end Go.Proofs.YtgiojkhmkeocfaaGreatDoor

/- The code's Parse of layer 15: the patches that are found, in memory. -/
set_option maxRecDepth 20000
namespace Go.Proofs.YtgiojkhmkeocfaaGreatDoor
open Go.RowKit

theorem infoPx : (Tryz.prog.info? 55).map (fun i => (i.zero, i.size, i.bytes)) = some (some (.agg #[.string ⟨#[]⟩, .string ⟨#[]⟩, .slice none 0 0]), 3, 56) := by kernel_rfl
/-- a patch, the row of its hunks, the hunks with their rows -/
structure Pfd where
  x : Pth
  v : Value
  hs : List (Hk × Value)
def pxC (f : Pfd) : List Value := [.string ⟨f.x.old.toArray⟩, .string ⟨f.x.new.toArray⟩, f.v]
def pxcells (F : List Pfd) : List Value := F.flatMap pxC
def pxO (f : Pfd) : Obj := .cells #[.string ⟨f.x.old.toArray⟩, .string ⟨f.x.new.toArray⟩, f.v] 55
/-- a patch's own rows -/
structure Pown (B : Nat) (u : World) (f : Pfd) : Prop where
  eq : f.x.hs = f.hs.map (·.1)
  own : u.ownsRow B 59 5 f.v f.hs.length (hkcells f.hs)
  ins : ∀ y ∈ f.hs, u.ownsRow B 103 2 y.2 y.1.ls.length (mkcells y.1.ls)
/-- what was found -/
structure Pw (w : World) (ov : Value) (F : List Pfd) (u : World) : Prop where
  low : Below w.heap.size w u
  own : u.ownsRow w.heap.size 55 3 ov F.length (pxcells F)
  ins : ∀ f ∈ F, Pown w.heap.size u f
theorem Pown.kept {B k : Nat} {u u' : World} {f : Pfd} (h : Pown B u f) (hg : u.grownBy u' (some k)) (h1 : f.v.ownBlock ≠ some k) (h2 : ∀ y ∈ f.hs, y.2.ownBlock ≠ some k) : Pown B u' f := ⟨h.eq, h.own.kept hg (.inr h1), fun y hy => (h.ins y hy).kept hg (.inr (h2 y hy))⟩
theorem Pown.keep {B : Nat} {u u' : World} {f : Pfd} (h : Pown B u f) (hb : Below u.heap.size u u') : Pown B u' f := ⟨h.eq, owns_keep h.own hb, fun y hy => owns_keep (h.ins y hy) hb⟩
/-- a box of a type that is none of the rows' -/
theorem Pown.box {B k : Nat} {u u' : World} {f : Pfd} {cs : Array Value} {t : TypeId} {fr : Nat × Nat} (h : Pown B u f) (hb : u.heap[k]? = some (.cells cs t fr)) (h1 : 59 ≠ t) (h2 : 103 ≠ t) (hg : u.grownBy u' (some k)) : Pown B u' f := h.kept hg (own_box2 h.own hb h1) (fun y hy => own_box2 (h.ins y hy) hb h2)
/-- a row of another type grows -/
theorem row_other {B : Nat} {u u' : World} {e e' : TypeId} {s s' : Nat} {v v' : Value} {n n' : Nat} {xs xs' : List Value} (h : u.ownsRow B e s v n xs) (ho : u.ownsRow B e' s' v' n' xs') (hne : e' ≠ e) (hg : u.grownBy u' v'.ownBlock) : u'.ownsRow B e s v n xs := by
  refine ⟨h.1, ?_⟩
  rcases h.2 with q | ⟨b, cap, cur, rfl, q2, q3, q4⟩
  · exact .inl q
  · refine .inr ⟨b, cap, cur, rfl, q2, ?_, q4⟩
    rw [hg.block b (Array.getElem?_eq_some_iff.1 q3).1 (fun e => own_box2 ho q3 hne e.symm)]
    exact q3
/-- Parse's own variables: what was found, what is wrong, the reader -/
structure RdP (w : World) (R : Nat) (L : List (List UInt8)) (vL ov : Value) (F : List Pfd) (p : Nat) (u : World) : Prop where
  pw : Pw w ov F u
  f0 : u.heap[w.heap.size]? = some (.cells #[ov] 48)
  f1 : u.heap[w.heap.size + 1]? = some (.cells #[.nilIface] 36)
  ck : Ck u R vL (p : Int)
  rl : w.heap.size + 1 < R
  ln : u.ownsRow w.heap.size 9 1 vL L.length (scells L)
section
variable {w u u' : World} {R : Nat} {L : List (List UInt8)} {vL ov : Value} {F : List Pfd} {p p' : Nat}
theorem RdP.c0 (h : RdP w R L vL ov F p u) : u.cell? ⟨w.heap.size, 0, none⟩ = some ov := by rw [Lib.cell_of_heap h.f0]; rfl
theorem RdP.keep (h : RdP w R L vL ov F p u) (hb : Below u.heap.size u u') : RdP w R L vL ov F p u' := ⟨⟨h.pw.low.trans (hb.mono h.pw.low.size), owns_keep h.pw.own hb, fun f hf => (h.pw.ins f hf).keep hb⟩, (hb.block _ (Array.getElem?_eq_some_iff.1 h.f0).1).trans h.f0, (hb.block _ (Array.getElem?_eq_some_iff.1 h.f1).1).trans h.f1, h.ck.low hb, h.rl, owns_keep h.ln hb⟩
theorem RdP.call (h : RdP w R L vL ov F p u) (hg : u.grownBy u' (some R)) (q : Ck u' R vL (p' : Int)) : RdP w R L vL ov F p' u' := by
  have hk : ∀ k x, k ≠ R → u.heap[k]? = some x → u'.heap[k]? = some x := fun k _ hk hx => (hg.block k (Array.getElem?_eq_some_iff.1 hx).1 (fun e => hk (Option.some.inj e))).trans hx
  have hb : u.heap[R]? = some (.cells #[vL, .int .i64 (p : Int)] 105) := h.ck
  have hr := h.rl
  exact ⟨⟨h.pw.low.grown hg h.pw.low.size (fun k e => by cases e; omega), h.pw.own.kept hg (.inr (own_box2 h.pw.own hb (by decide))), fun f hf => (h.pw.ins f hf).box hb (by decide) (by decide) hg⟩, hk _ _ (by omega) h.f0, hk _ _ (by omega) h.f1, q, h.rl, h.ln.kept hg (.inr (own_box2 h.ln hb (by decide)))⟩
theorem RdP.lines (h : RdP w R L vL ov F p u) (hg : u.grownBy u' (some R)) : HS u' vL L := by
  have hb : u.heap[R]? = some (.cells #[vL, .int .i64 (p : Int)] 105) := h.ck
  exact holds_of (h.ln.kept hg (.inr (own_box2 h.ln hb (by decide))))
/-- one patch more -/
theorem RdP.more (h : RdP w R L vL ov F p u) {f : Pfd} {ov' : Value} (hy : Pown w.heap.size u f) (hg : u.grownBy u' ov.ownBlock) (ho : u'.ownsRow w.heap.size 55 3 ov' (F.length + 1) (pxcells F ++ pxC f)) :
    RdP w R L vL ov' (F ++ [f]) p (u'.setCell ⟨w.heap.size, 0, none⟩ ov') ∧ u'.cell? ⟨w.heap.size, 0, none⟩ = some ov ∧ u'.frozen? ⟨w.heap.size, 0, none⟩ = false := by
  have hk : ∀ (k : Nat) (cs : Array Value) (t : TypeId) (fr : Nat × Nat), t ≠ 55 → u.heap[k]? = some (Obj.cells cs t fr) → u'.heap[k]? = some (Obj.cells cs t fr) := fun k cs t fr ht hx => (hg.block k (Array.getElem?_eq_some_iff.1 hx).1 (fun e => own_box2 h.pw.own hx ht.symm e.symm)).trans hx
  have f0 := hk _ _ _ _ (by decide) h.f0
  have f1 := hk _ _ _ _ (by decide) h.f1
  have ck : Ck u' R vL (p : Int) := hk _ _ _ _ (by decide) h.ck
  have hg2 := grown_set u' w.heap.size 0 ov'
  have hin : ∀ g, Pown w.heap.size u g → Pown w.heap.size u' g := fun g hp => ⟨hp.eq, row_other hp.own h.pw.own (by decide) hg, fun y hy => row_other (hp.ins y hy) h.pw.own (by decide) hg⟩
  have hlow := h.pw.low.grown hg h.pw.low.size (fun k e => owns_ge h.pw.own e)
  have hr := h.rl
  refine ⟨⟨⟨hlow.setCell (Nat.le_refl _) _, ?_, ?_⟩, heap_setCell_same u' _ 0 _ _ ov' f0, (Below.heap_setCell _ _ _ _ (by simp)).trans f1, ck.keep hg2 (fun e => by have := Option.some.inj e; omega), h.rl, (row_other h.ln h.pw.own (by decide) hg).kept hg2 (.inr (own_box2 (row_other h.ln h.pw.own (by decide) hg) f0 (by decide)))⟩, by rw [Lib.cell_of_heap f0]; rfl, Lib.frozen_of_heap f0 0⟩
  · have e1 : pxcells (F ++ [f]) = pxcells F ++ pxC f := by simp [pxcells]
    rw [List.length_append, e1]
    exact ho.kept hg2 (.inr (own_box2 ho f0 (by decide)))
  · intro g hgm
    have hP : Pown w.heap.size u' g := by
      rcases List.mem_append.1 hgm with hm | hm
      · exact hin g (h.pw.ins g hm)
      · rw [List.mem_singleton.1 hm]; exact hin f hy
    exact hP.box f0 (by decide) (by decide) hg2
end
theorem one_px (w : World) (f : Pfd) : Holds (w.alloc (pxO f)) (.slice (some ⟨w.heap.size, 0, none⟩) 1 1) 1 (pxC f) := by
  refine .inr ⟨⟨w.heap.size, 0, none⟩, 1, rfl, Nat.le_refl _, ?_⟩
  intro j u hj
  have hb := heap_alloc_new w (pxO f)
  match j, hj with
  | 0, hj => rw [show ((⟨w.heap.size, 0, none⟩ : Addr).add 0) = ⟨w.heap.size, 0, none⟩ from rfl, Lib.cell_of_heap hb]; exact hj
  | 1, hj => rw [show ((⟨w.heap.size, 0, none⟩ : Addr).add 1) = ⟨w.heap.size, 1, none⟩ from rfl, Lib.cell_of_heap hb]; exact hj
  | 2, hj => rw [show ((⟨w.heap.size, 0, none⟩ : Addr).add 2) = ⟨w.heap.size, 2, none⟩ from rfl, Lib.cell_of_heap hb]; exact hj
  | n + 3, hj => simp [pxC] at hj
theorem patP_drop {k p : Nat} {L r : List (List UInt8)} {x : Pth} {p1 : Nat} (h : patP k p (L.drop p) = .ok (x, p1, r)) : k < 64 := by
  unfold patP at h
  cases hn : namP [42, 42, 42, 32] p (L.drop p) with
  | error e => rw [hn] at h; cases h
  | ok z =>
    rw [hn] at h
    dsimp only at h
    split at h
    · cases h
    · omega
/-- patches ahead of what is left -/
def thenPs (l : List Pth) (X : Except (Nat × Int) (List Pth)) : Except (Nat × Int) (List Pth) :=
  match X with
  | .error e => .error e
  | .ok m => .ok (l ++ m)
/-- what Parse answers -/
def PrQ (w : World) (X : Except (Nat × Int) (List Pth)) (e : Ending) (w' : World) : Prop :=
  match X with
  | .error (a, z) => ∃ g, e = .returned (.tuple #[.slice none 0 0, .iface 86 (.pointer (some ⟨g, 0, none⟩))]) ∧ w'.heap[g]? = some (fltO (a : Int) z) ∧ Below w.heap.size w w'
  | .ok l => ∃ v' F, e = .returned (.tuple #[v', .nilIface]) ∧ Pw w v' F w' ∧ F.map (·.x) = l
end Go.Proofs.YtgiojkhmkeocfaaGreatDoor

/- The reference's side of layer 15 while its lines are read: its variable, the rows of kinds and lines, the reader. -/
set_option maxRecDepth 20000
namespace Go.Proofs.YtgiojkhmkeocfaaGreatDoor
open Go.RowKit

def bcs (ks : List UInt8) : List Value := ks.map fun c => .int .u8 (c.toNat : Int)
theorem bcs_snoc (ks : List UInt8) (c : UInt8) : bcs (ks ++ [c]) = bcs ks ++ [.int .u8 (c.toNat : Int)] := by simp [bcs]
theorem bcs_kc (x : Sde) : bcs (x.map (·.1)) = kcells x := by simp [bcs, kcells]
theorem infoU8C : (Tryz.prog.info? 5).map (fun i => (i.zero, i.size, i.bytes)) = some (some (.int .u8 0), 1, 1) := by kernel_rfl
/-- a side's variable and its rows; all else, the reader aside, is as it was -/
structure Lx (w : World) (R X : Nat) (a p n : Int) (vk vl : Value) (ks : List UInt8) (ts : List (List UInt8)) (u : World) : Prop where
  os : u.os = w.os
  tape : u.tape = w.tape
  output : u.output = w.output
  size : w.heap.size ≤ u.heap.size
  block : ∀ k, k < w.heap.size → k ≠ R → k ≠ X → u.heap[k]? = w.heap[k]?
  box : Bp5 u X a p n vk vl
  ok : u.ownsRow w.heap.size 5 1 vk ks.length (bcs ks)
  ol : u.ownsRow w.heap.size 9 1 vl ts.length (scells ts)
section
variable {w u u' : World} {R X : Nat} {a p n : Int} {vk vl : Value} {ks : List UInt8} {ts : List (List UInt8)}
theorem Lx.start (h : Bp5 w X a p n (.slice none 0 0) (.slice none 0 0)) : Lx w R X a p n (.slice none 0 0) (.slice none 0 0) [] [] w := ⟨rfl, rfl, rfl, Nat.le_refl _, fun _ _ _ _ => rfl, h, World.ownsRow_nil _ _ _ _, World.ownsRow_nil _ _ _ _⟩
theorem Lx.low (h : Lx w R X a p n vk vl ks ts u) (hb : Below u.heap.size u u') : Lx w R X a p n vk vl ks ts u' :=
  ⟨hb.os.trans h.os, hb.tape.trans h.tape, hb.output.trans h.output, Nat.le_trans h.size hb.size, fun k h1 h2 h3 => (hb.block k (Nat.lt_of_lt_of_le h1 h.size)).trans (h.block k h1 h2 h3), h.box.low hb, owns_keep h.ok hb, owns_keep h.ol hb⟩
/-- the reader goes on -/
theorem Lx.call (h : Lx w R X a p n vk vl ks ts u) (hg : u.grownBy u' (some R)) (hR : R < w.heap.size) (hX : X ≠ R) : Lx w R X a p n vk vl ks ts u' :=
  ⟨hg.os.trans h.os, hg.tape.trans h.tape, hg.output.trans h.output, Nat.le_trans h.size hg.size, fun k h1 h2 h3 => (hg.block k (Nat.lt_of_lt_of_le h1 h.size) (fun e => h2 (Option.some.inj e))).trans (h.block k h1 h2 h3), h.box.off hg (fun e => hX (Option.some.inj e)), owns_fr h.ok hg hR, owns_fr h.ol hg hR⟩
/-- one kind more -/
theorem Lx.moreK (h : Lx w R X a p n vk vl ks ts u) {c : UInt8} {v' : Value} (hg : u.grownBy u' vk.ownBlock) (ho : u'.ownsRow w.heap.size 5 1 v' (ks.length + 1) (bcs ks ++ [.int .u8 (c.toNat : Int)])) :
    Lx w R X a p n v' vl (ks ++ [c]) ts (u'.setCell ⟨X, 3, none⟩ v') ∧ Bp5 u' X a p n vk vl ∧ (∀ {vL : Value} {st : Except (Nat × Int) Nat}, R < w.heap.size → X ≠ R → RdZ u R vL st → RdZ (u'.setCell ⟨X, 3, none⟩ v') R vL st) := by
  have hb : Bp5 u' X a p n vk vl := h.box.off hg (fun e => own_box2 h.ok h.box (by decide) e.symm)
  have hg2 := grown_set u' X 3 v'
  have hl := row_other h.ol h.ok (by decide) hg
  refine ⟨⟨(hg2.os.trans hg.os).trans h.os, (hg2.tape.trans hg.tape).trans h.tape, (hg2.output.trans hg.output).trans h.output, Nat.le_trans h.size (Nat.le_trans hg.size hg2.size), fun k h1 h2 h3 => ?_, heap_setCell_same u' X 3 _ _ v' hb, ?_, hl.kept hg2 (.inr (own_box2 hl hb (by decide)))⟩, hb, fun hR hX q => (q.off hg (fun e => ?_)).off hg2 (fun e => hX (Option.some.inj e).symm)⟩
  · rw [hg2.block k (Nat.lt_of_lt_of_le h1 (Nat.le_trans h.size hg.size)) (fun e => h3 (Option.some.inj e)), hg.block k (Nat.lt_of_lt_of_le h1 h.size) (fun e => by have := owns_ge h.ok e.symm; omega)]
    exact h.block k h1 h2 h3
  · rw [List.length_append, bcs_snoc]
    exact ho.kept hg2 (.inr (own_box2 ho hb (by decide)))
  · have := owns_ge h.ok e.symm
    omega
/-- one line more -/
theorem Lx.moreL (h : Lx w R X a p n vk vl ks ts u) {t : List UInt8} {v' : Value} (hg : u.grownBy u' vl.ownBlock) (ho : u'.ownsRow w.heap.size 9 1 v' (ts.length + 1) (scells ts ++ [.string ⟨t.toArray⟩])) :
    Lx w R X a p n vk v' ks (ts ++ [t]) (u'.setCell ⟨X, 4, none⟩ v') ∧ Bp5 u' X a p n vk vl ∧ (∀ {vL : Value} {st : Except (Nat × Int) Nat}, R < w.heap.size → X ≠ R → RdZ u R vL st → RdZ (u'.setCell ⟨X, 4, none⟩ v') R vL st) := by
  have hb : Bp5 u' X a p n vk vl := h.box.off hg (fun e => own_box2 h.ol h.box (by decide) e.symm)
  have hg2 := grown_set u' X 4 v'
  have hl := row_other h.ok h.ol (by decide) hg
  refine ⟨⟨(hg2.os.trans hg.os).trans h.os, (hg2.tape.trans hg.tape).trans h.tape, (hg2.output.trans hg.output).trans h.output, Nat.le_trans h.size (Nat.le_trans hg.size hg2.size), fun k h1 h2 h3 => ?_, heap_setCell_same u' X 4 _ _ v' hb, hl.kept hg2 (.inr (own_box2 hl hb (by decide))), ?_⟩, hb, fun hR hX q => (q.off hg (fun e => ?_)).off hg2 (fun e => hX (Option.some.inj e).symm)⟩
  · rw [hg2.block k (Nat.lt_of_lt_of_le h1 (Nat.le_trans h.size hg.size)) (fun e => h3 (Option.some.inj e)), hg.block k (Nat.lt_of_lt_of_le h1 h.size) (fun e => by have := owns_ge h.ol e.symm; omega)]
    exact h.block k h1 h2 h3
  · rw [List.length_append, sc_snoc]
    exact ho.kept hg2 (.inr (own_box2 ho hb (by decide)))
  · have := owns_ge h.ol e.symm
    omega
end
/-- the lines of a side -/
def sdZ (sg : UInt8) (L : List (List UInt8)) : Except (Nat × Int) Nat → Except (Nat × Int) (Sde × Nat)
  | .error e => .error e
  | .ok p => match rdS sg p (L.drop p) with
    | .error e => .error e
    | .ok (x, p1, _) => .ok (x, p1)
/-- lines ahead of those that are left -/
def thenS (x : Sde) (Y : Except (Nat × Int) (Sde × Nat)) : Except (Nat × Int) (Sde × Nat) :=
  match Y with
  | .error e => .error e
  | .ok (l, p) => .ok (x ++ l, p)
theorem thenS_nil (Y : Except (Nat × Int) (Sde × Nat)) : thenS [] Y = Y := by
  rcases Y with e | ⟨l, p⟩ <;> rfl
theorem sdZ_stop {sg : UInt8} {p : Nat} {L : List (List UInt8)} (h : ∀ h : p < L.length, isSd sg L[p] = false) (x : Sde) : thenS x (sdZ sg L (.ok p)) = .ok (x, p) := by
  unfold sdZ
  dsimp only
  by_cases hp : p < L.length
  · rw [List.drop_eq_getElem_cons hp]
    simp only [rdS]
    rw [if_neg (by rw [h hp]; decide)]
    simp [thenS]
  · rw [List.drop_eq_nil_of_le (by omega)]
    simp [rdS, thenS]
theorem sdZ_go {sg : UInt8} {p : Nat} {L : List (List UInt8)} (hp : p < L.length) (h : isSd sg L[p] = true) (x : Sde) : thenS x (sdZ sg L (.ok p)) = if fdB L[p] = true then (if pkM (L.drop (p + 1)) = true ∧ 3 < L[p].length then .ok (x ++ [(L[p].headD 0, (L[p].drop 2).dropLast)], p + 2) else thenS (x ++ [(L[p].headD 0, L[p].drop 2)]) (sdZ sg L (.ok (p + 1)))) else .error (p + 1, 3) := by
  unfold sdZ
  dsimp only
  rw [List.drop_eq_getElem_cons hp]
  simp only [rdS]
  rw [if_pos h]
  by_cases hf : fdB L[p] = true
  · rw [if_pos hf, if_pos hf]
    by_cases hm : pkM (L.drop (p + 1)) = true ∧ 3 < L[p].length
    · rw [if_pos hm, if_pos hm]
      rfl
    · rw [if_neg hm, if_neg hm]
      cases rdS sg (p + 1) (L.drop (p + 1)) with
      | error e => rfl
      | ok z =>
        obtain ⟨l, p2, r⟩ := z
        simp [thenS]
  · rw [if_neg hf, if_neg hf]
    rfl
theorem pk_sd (sg : UInt8) (s : List UInt8) : isSd sg s = ([32, 32].isPrefixOf s || [sg, 32].isPrefixOf s || [33, 32].isPrefixOf s) := by
  match s with
  | [] => rfl
  | [a] => simp [isSd, List.isPrefixOf]
  | a :: b :: t =>
    simp only [isSd, List.isPrefixOf, Bool.and_true]
    have e1 : ((32 : UInt8) == a) = (a == 32) := by rw [Bool.eq_iff_iff, beq_iff_eq, beq_iff_eq]; exact eq_comm
    have e2 : (sg == a) = (a == sg) := by rw [Bool.eq_iff_iff, beq_iff_eq, beq_iff_eq]; exact eq_comm
    have e3 : ((33 : UInt8) == a) = (a == 33) := by rw [Bool.eq_iff_iff, beq_iff_eq, beq_iff_eq]; exact eq_comm
    have e4 : ((32 : UInt8) == b) = (b == 32) := by rw [Bool.eq_iff_iff, beq_iff_eq, beq_iff_eq]; exact eq_comm
    rw [e1, e2, e3, e4]
    cases (a == 32) <;> cases (a == sg) <;> cases (a == 33) <;> cases (b == 32) <;> rfl
/-- where the reader stands -/
def rzN (u : World) (R : Nat) : Nat := match u.cell? ⟨R, 1, none⟩ with
  | some v => (intOf v).toNat
  | none => 0
theorem rzN_of {u : World} {R : Nat} {vL : Value} {p : Nat} (h : RdZ u R vL (.ok p)) : rzN u R = p := by
  unfold rzN
  rw [(Rx.cells h).2.1]
  simp [intOf]
/-- what the lines of a side leave behind -/
def LnQ5 (R : Nat) (vL : Value) (Z : Except (Nat × Int) (Sde × Nat)) (x : Sde) (w' : World) : Prop :=
  match Z with
  | .error e => RdZ w' R vL (.error e)
  | .ok (x0, p1) => x = x0 ∧ RdZ w' R vL (.ok p1)
end Go.Proofs.YtgiojkhmkeocfaaGreatDoor

/- The context form's hunk as the reference reads it; plain mathematics. -/
set_option maxRecDepth 20000
namespace Go.Proofs.YtgiojkhmkeocfaaGreatDoor
open Ln

theorem rds_rest {sg : UInt8} (ls : List (List UInt8)) : ∀ {p p1 : Nat} {r : List (List UInt8)} {x : Sde}, rdS sg p ls = .ok (x, p1, r) → p ≤ p1 ∧ r = ls.drop (p1 - p) := by
  induction ls with
  | nil =>
    intro p p1 r x h
    simp only [rdS] at h
    cases h
    exact ⟨Nat.le_refl _, by simp⟩
  | cons s ls ih =>
    intro p p1 r x h
    simp only [rdS] at h
    split at h
    · split at h
      · split at h
        · cases h
          refine ⟨by omega, ?_⟩
          have e : p + 2 - p = 2 := by omega
          rw [e]
          cases ls <;> rfl
        · split at h
          · cases h
          · rename_i l p2 r2 hr
            obtain ⟨h1, h2⟩ := ih hr
            cases h
            refine ⟨by omega, ?_⟩
            have e : p1 - p = (p1 - (p + 1)) + 1 := by omega
            rw [h2, e, List.drop_succ_cons]
      · cases h
    · cases h
      exact ⟨Nat.le_refl _, by simp⟩
theorem rds_drop {sg : UInt8} {L r : List (List UInt8)} {p p1 : Nat} {x : Sde} (h : rdS sg p (L.drop p) = .ok (x, p1, r)) : r = L.drop p1 ∧ p ≤ p1 := by
  obtain ⟨h1, h2⟩ := rds_rest _ h
  rw [List.drop_drop] at h2
  have e : p + (p1 - p) = p1 := by omega
  rw [e] at h2
  exact ⟨h2, h1⟩
theorem nxt_dropR {L r : List (List UInt8)} {p : Nat} {s : List UInt8} (h : nxt p (L.drop p) = .ok (s, r)) : r = L.drop (p + 1) ∧ p < L.length := by
  by_cases hp : p < L.length
  · rw [nxt_drop hp] at h
    split at h
    · cases h
      exact ⟨rfl, hp⟩
    · cases h
  · rw [nxt_end (by omega)] at h
    cases h
theorem rng_dropR {e : UInt8} {L r : List (List UInt8)} {p : Nat} {q : Int × Int} (h : rngP e p (L.drop p) = .ok (q, r)) : r = L.drop (p + 1) ∧ p < L.length := by
  unfold rngP at h
  cases hn : nxt p (L.drop p) with
  | error x => rw [hn] at h; cases h
  | ok z =>
    obtain ⟨s, r0⟩ := z
    rw [hn] at h
    dsimp only at h
    cases hi : innR e s with
    | none => rw [hi] at h; cases h
    | some t =>
      rw [hi] at h
      dsimp only at h
      cases hr : rngI t with
      | none => rw [hr] at h; cases h
      | some q2 =>
        rw [hr] at h
        cases h
        exact nxt_dropR hn
/-- the state behind the line of stars -/
def stS (k : Nat) (s : List UInt8) (p1 : Nat) : Except (Nat × Int) Nat := if isSt s = true then (if 4096 ≤ k then .error (p1, 9) else .ok p1) else .error (p1, 3)
/-- a hunk as the reference reads it -/
def hkZ (k : Nat) (L : List (List UInt8)) (p : Nat) : Except (Nat × Int) (Hk × Nat) := match cxH k p (L.drop p) with
  | .error e => .error e
  | .ok (h, p1, _) => .ok (h, p1)
theorem hkZ_eq (k : Nat) (L : List (List UInt8)) (p : Nat) : hkZ k L p = match nxZ L (.ok p) with
    | .error e => .error e
    | .ok (s, p1) => match rgZ 42 L (stS k s p1) with
      | .error e => .error e
      | .ok (q, p2) => match sdZ 45 L (.ok p2) with
        | .error e => .error e
        | .ok (o, p3) => match rgZ 45 L (.ok p3) with
          | .error e => .error e
          | .ok (q2, p4) => match sdZ 43 L (.ok p4) with
            | .error e => .error e
            | .ok (v, p5) => match finH p1 p2 p4 q.1 q.2 q2.1 q2.2 o v with
              | .error e => .error e
              | .ok h => .ok (h, p5) := by
  unfold hkZ cxH nxZ
  dsimp only
  cases hn : nxt p (L.drop p) with
  | error e => rfl
  | ok z =>
    obtain ⟨s, r⟩ := z
    dsimp only
    obtain ⟨rfl, _⟩ := nxt_dropR hn
    unfold stS
    by_cases h1 : isSt s = true
    · rw [if_pos h1, if_pos h1]
      by_cases h2 : 4096 ≤ k
      · rw [if_pos h2, if_pos h2]
        rfl
      · rw [if_neg h2, if_neg h2]
        unfold rgZ
        dsimp only
        cases h3 : rngP 42 (p + 1) (L.drop (p + 1)) with
        | error e => rfl
        | ok z =>
          obtain ⟨⟨po, no⟩, r1⟩ := z
          dsimp only
          obtain ⟨rfl, _⟩ := rng_dropR h3
          unfold sdZ
          dsimp only
          cases h4 : rdS 45 (p + 1 + 1) (L.drop (p + 1 + 1)) with
          | error e => rfl
          | ok z =>
            obtain ⟨o, p2, r2⟩ := z
            dsimp only
            obtain ⟨rfl, _⟩ := rds_drop h4
            cases h5 : rngP 45 p2 (L.drop p2) with
            | error e => rfl
            | ok z =>
              obtain ⟨⟨pw, nw⟩, r3⟩ := z
              dsimp only
              obtain ⟨rfl, _⟩ := rng_dropR h5
              cases h6 : rdS 43 (p2 + 1) (L.drop (p2 + 1)) with
              | error e => rfl
              | ok z =>
                obtain ⟨v, p4, r4⟩ := z
                dsimp only
                cases finH (p + 1) (p + 1 + 1) (p2 + 1) po no pw nw o v <;> rfl
    · rw [if_neg h1, if_neg h1]
      rfl
/-- the state alone -/
def stP {α : Type} : Except (Nat × Int) (α × Nat) → Except (Nat × Int) Nat
  | .error e => .error e
  | .ok (_, p) => .ok p
end Go.Proofs.YtgiojkhmkeocfaaGreatDoor

/- The reference's lines with names of layer 15, read: walked. -/
set_option maxRecDepth 20000
namespace Go.Proofs.YtgiojkhmkeocfaaGreatDoor
open Go.RowKit Go.Proofs.YtgiojkhmkeocfaaGreatDoor.Tx
attribute [local go_sem] ByteArray.extract_mk no_at

/-- a line with a name -/
def nmZ (ah : List UInt8) (L : List (List UInt8)) : Except (Nat × Int) Nat → Except (Nat × Int) (List UInt8 × Nat)
  | .error e => .error e
  | .ok p => match namP ah p (L.drop p) with
    | .error e => .error e
    | .ok (n, _) => .ok (n, p + 1)
theorem nmZ_nx {ah : List UInt8} {L : List (List UInt8)} {st : Except (Nat × Int) Nat} : nmZ ah L st = match nxZ L st with
    | .error e => .error e
    | .ok (s, p1) => if ah.isPrefixOf s = true then (match namedP (s.drop 4) with
      | none => .error (p1, 253)
      | some n => .ok (n, p1)) else .error (p1, 3) := by
  cases st with
  | error e => rfl
  | ok p =>
    unfold nmZ nxZ namP
    dsimp only
    cases nxt p (L.drop p) with
    | error e => rfl
    | ok z =>
      obtain ⟨s, r⟩ := z
      dsimp only
      by_cases h : ah.isPrefixOf s = true
      · rw [if_pos h, if_pos h]
        cases namedP (s.drop 4) <;> rfl
      · rw [if_neg h, if_neg h]
set_option maxHeartbeats 4000000 in
set_option maxRecDepth 10000 in
theorem gnamed_f {R : Nat} {L : List (List UInt8)} {lo : Option Addr} {lc : Nat} {st : Except (Nat × Int) Nat} (ah : List UInt8) (hah : ah.length = 4) (w : World) (q : RdZ w R (.slice lo L.length lc) st) (hL : HS w (.slice lo L.length lc) L) (hR : ∀ a, lo = some a → a.block ≠ R) (hp : ∀ p, st = .ok p → p ≤ 4398046511104) (hs : ∀ s ∈ L, s.length ≤ 1099511627776) (hsx : ∀ s p1, nxZ L st = .ok (s, p1) → s.length ≤ 1099511627776)
    (Z : Except (Nat × Int) (List UInt8 × Nat)) (HZ : Hid (nmZ ah L st = Z)) :
    Calls Tryz.prog 54 #[.pointer (some ⟨R, 0, none⟩), .string ⟨ah.toArray⟩] w fun x w' => NxQ R (.slice lo L.length lc) Z x w' ∧ w.grownBy w' (some R) := by
  obtain ⟨Y, hY⟩ : ∃ Y, nxZ L st = Y := ⟨_, rfl⟩
  have hn := gNext_f w q hL hR hp hs Y hY
  have hZ := HZ.out
  rw [nmZ_nx, hY] at hZ
  rw [hY] at hsx
  clear HZ hY hL hR hs hp q
  cases Y with
  | error e =>
    obtain ⟨a, z⟩ := e
    dsimp only at hZ
    subst hZ
    go_enter Tryz.func54, Tryz.ntmps54
    go_wp2_with fail
    refine hn.mono ?_
    rintro x w1 ⟨⟨rfl, q1⟩, g1⟩
    have c3 := q1.fe
    have hz : (z != 0) = true := bne_iff_ne.2 q1.2
    unfold feS at c3
    dsimp only at c3
    go_wp2
    go_ret
    exact ⟨⟨rfl, q1⟩, g1⟩
  | ok y =>
    obtain ⟨s, p1⟩ := y
    have hsl := hsx s p1 rfl
    dsimp only at hZ
    clear hsx
    by_cases h1 : ah.isPrefixOf s = true
    · rw [if_pos h1] at hZ
      rw [pre_take, hah, Bool.and_eq_true, decide_eq_true_eq, beq_iff_eq] at h1
      obtain ⟨h2, h3⟩ := h1
      have i1 : ¬ (s.length : Int) < 4 := by omega
      have i2 : (4 : Int) ≤ (s.length : Int) := by omega
      obtain ⟨N, hN⟩ : ∃ N, namedP (s.drop 4) = N := ⟨_, rfl⟩
      have HN : Hid (namedP (s.drop 4) = N) := hN
      rw [hN] at hZ
      have hd := fun w => rNamed_f (s.drop 4) (by rw [List.length_drop]; omega) w N HN
      have ed : List.take (s.length - 4) (List.drop 4 s) = List.drop 4 s := List.take_of_length_le (by rw [List.length_drop]; omega)
      clear hN HN
      subst h3
      go_enter Tryz.func54, Tryz.ntmps54
      go_wp2_with fail
      refine hn.mono ?_
      rintro x w1 ⟨⟨rfl, q1⟩, g1⟩
      have c3 := q1.fe
      unfold feS at c3
      dsimp only at c3
      go_wp2_with fail
      refine (hd w1).mono ?_
      rintro e w2 ⟨rfl, hB2⟩
      have q2 := q1.low hB2
      have g2 := grown_two g1 (low_grown hB2 _)
      cases N with
      | none =>
        subst hZ
        unfold nmV nmE
        go_wp2_with fail
        refine (gFail_f 253 (by decide) w2 q2).mono ?_
        rintro e w3 ⟨rfl, q3, g3⟩
        go_wp2
        go_ret
        exact ⟨⟨rfl, q3⟩, grown_two g2 g3⟩
      | some n =>
        subst hZ
        unfold nmV nmE
        go_wp2
        go_ret
        exact ⟨⟨rfl, q2⟩, g2⟩
    · rw [if_neg h1] at hZ
      subst hZ
      rw [pre_take, hah] at h1
      by_cases h2 : s.length < 4
      · have i1 : (s.length : Int) < 4 := by omega
        clear h1
        go_enter Tryz.func54, Tryz.ntmps54
        go_wp2_with fail
        refine hn.mono ?_
        rintro x w1 ⟨⟨rfl, q1⟩, g1⟩
        have c3 := q1.fe
        unfold feS at c3
        dsimp only at c3
        go_wp2_with fail
        refine (gFail_f 3 (by decide) w1 q1).mono ?_
        rintro e w3 ⟨rfl, q3, g3⟩
        go_wp2
        go_ret
        exact ⟨⟨rfl, q3⟩, grown_two g1 g3⟩
      · have i1 : ¬ (s.length : Int) < 4 := by omega
        have i2 : (4 : Int) ≤ (s.length : Int) := by omega
        have j1 : (s.take 4 == ah) = false := (by
          rw [decide_eq_true (by omega), Bool.true_and, beq_iff_eq] at h1
          exact beq_eq_false_iff_ne.2 h1)
        clear h1
        go_enter Tryz.func54, Tryz.ntmps54
        go_wp2_with fail
        refine hn.mono ?_
        rintro x w1 ⟨⟨rfl, q1⟩, g1⟩
        have c3 := q1.fe
        unfold feS at c3
        dsimp only at c3
        go_wp2_with fail
        refine (gFail_f 3 (by decide) w1 q1).mono ?_
        rintro e w3 ⟨rfl, q3, g3⟩
        go_wp2
        go_ret
        exact ⟨⟨rfl, q3⟩, grown_two g1 g3⟩
end Go.Proofs.YtgiojkhmkeocfaaGreatDoor

/- The context form's patches as the reference reads them, by states; plain mathematics. -/
set_option maxRecDepth 20000
namespace Go.Proofs.YtgiojkhmkeocfaaGreatDoor
open Ln

theorem cxh_drop {k p p1 : Nat} {L r : List (List UInt8)} {h : Hk} (hh : cxH k p (L.drop p) = .ok (h, p1, r)) : r = L.drop p1 ∧ p + 3 ≤ p1 := by
  unfold cxH at hh
  cases hn : nxt p (L.drop p) with
  | error e => rw [hn] at hh; cases hh
  | ok z =>
    obtain ⟨s, r0⟩ := z
    obtain ⟨rfl, _⟩ := nxt_dropR hn
    rw [hn] at hh
    dsimp only at hh
    split at hh
    · split at hh
      · cases hh
      · cases h3 : rngP 42 (p + 1) (L.drop (p + 1)) with
        | error e => rw [h3] at hh; cases hh
        | ok z =>
          obtain ⟨⟨po, no⟩, r1⟩ := z
          obtain ⟨rfl, _⟩ := rng_dropR h3
          rw [h3] at hh
          dsimp only at hh
          cases h4 : rdS 45 (p + 2) (L.drop (p + 1 + 1)) with
          | error e => rw [h4] at hh; cases hh
          | ok z =>
            obtain ⟨o, p2, r2⟩ := z
            obtain ⟨rfl, q4⟩ := rds_drop (p := p + 2) h4
            rw [h4] at hh
            dsimp only at hh
            cases h5 : rngP 45 p2 (L.drop p2) with
            | error e => rw [h5] at hh; cases hh
            | ok z =>
              obtain ⟨⟨pw, nw⟩, r3⟩ := z
              obtain ⟨rfl, _⟩ := rng_dropR h5
              rw [h5] at hh
              dsimp only at hh
              cases h6 : rdS 43 (p2 + 1) (L.drop (p2 + 1)) with
              | error e => rw [h6] at hh; cases hh
              | ok z =>
                obtain ⟨v, p4, r4⟩ := z
                obtain ⟨rfl, q6⟩ := rds_drop h6
                rw [h6] at hh
                dsimp only at hh
                split at hh
                · cases hh
                · cases hh
                  exact ⟨rfl, by omega⟩
    · cases hh
/-- the hunks of a patch, by states -/
def hsZ (f k : Nat) (L : List (List UInt8)) (p : Nat) : Except (Nat × Int) (List Hk × Nat) := match cxHs f k p (L.drop p) with
  | .error e => .error e
  | .ok (l, p1, _) => .ok (l, p1)
theorem hsZ_step (f k : Nat) (L : List (List UInt8)) (p : Nat) : hsZ (f + 1) k L p = match hkZ k L p with
    | .error e => .error e
    | .ok (h, p1) => if pkG starsT (L.drop p1) = true then (match hsZ f (k + 1) L p1 with
      | .error e => .error e
      | .ok (l, p2) => .ok (h :: l, p2)) else .ok ([h], p1) := by
  unfold hsZ hkZ
  simp only [cxHs]
  cases h1 : cxH k p (L.drop p) with
  | error e => rfl
  | ok z =>
    obtain ⟨h, p1, r⟩ := z
    obtain ⟨rfl, _⟩ := cxh_drop h1
    dsimp only
    have e : pkS (L.drop p1) = pkG starsT (L.drop p1) := by cases L.drop p1 <;> rfl
    rw [e]
    by_cases h2 : pkG starsT (L.drop p1) = true
    · rw [if_pos h2, if_pos h2]
      cases cxHs f (k + 1) p1 (L.drop p1) with
      | error e => rfl
      | ok z => rfl
    · rw [if_neg h2, if_neg h2]
theorem cxhs_drop (f : Nat) : ∀ {k p p1 : Nat} {L r : List (List UInt8)} {hs : List Hk}, cxHs f k p (L.drop p) = .ok (hs, p1, r) → r = L.drop p1 ∧ p < p1 := by
  induction f with
  | zero => intro k p p1 L r hs h; cases h
  | succ f ih =>
    intro k p p1 L r hs h
    simp only [cxHs] at h
    cases h1 : cxH k p (L.drop p) with
    | error e => rw [h1] at h; cases h
    | ok z =>
      obtain ⟨h0, p2, r2⟩ := z
      obtain ⟨rfl, q1⟩ := cxh_drop h1
      rw [h1] at h
      dsimp only at h
      split at h
      · cases h2 : cxHs f (k + 1) p2 (L.drop p2) with
        | error e => rw [h2] at h; cases h
        | ok z =>
          obtain ⟨l, p3, r3⟩ := z
          obtain ⟨q2, q3⟩ := ih h2
          rw [h2] at h
          cases h
          exact ⟨q2, by omega⟩
      · cases h
        exact ⟨rfl, by omega⟩
/-- a patch, by states -/
def paZ (k : Nat) (L : List (List UInt8)) (p : Nat) : Except (Nat × Int) (Pth × Nat) := match patP k p (L.drop p) with
  | .error e => .error e
  | .ok (x, p3, _) => .ok (x, p3)
theorem paZ_eq (k : Nat) (L : List (List UInt8)) (p : Nat) : paZ k L p = match nmZ [42, 42, 42, 32] L (.ok p) with
    | .error e => .error e
    | .ok (n1, p1) => if 64 ≤ k then .error (p1, 9) else match nmZ [45, 45, 45, 32] L (.ok p1) with
      | .error e => .error e
      | .ok (n2, p2) => match hsZ ((L.drop p2).length + 1) 0 L p2 with
        | .error e => .error e
        | .ok (hs, p3) => .ok (⟨n1, n2, hs⟩, p3) := by
  unfold paZ patP nmZ
  dsimp only
  cases h1 : namP [42, 42, 42, 32] p (L.drop p) with
  | error e => rfl
  | ok z =>
    obtain ⟨n1, r1⟩ := z
    obtain ⟨rfl, _⟩ := nam_drop h1
    dsimp only
    by_cases h2 : 64 ≤ k
    · rw [if_pos h2, if_pos h2]
    · rw [if_neg h2, if_neg h2]
      cases h3 : namP [45, 45, 45, 32] (p + 1) (L.drop (p + 1)) with
      | error e => rfl
      | ok z =>
        obtain ⟨n2, r2⟩ := z
        obtain ⟨rfl, _⟩ := nam_drop h3
        dsimp only
        unfold hsZ
        cases cxHs ((L.drop (p + 1 + 1)).length + 1) 0 (p + 2) (L.drop (p + 1 + 1)) with
        | error e => rfl
        | ok z => rfl
/-- all patches, by states -/
theorem psZ_step (f k : Nat) (L : List (List UInt8)) (p : Nat) : cxPs (f + 1) k p (L.drop p) = if L.length ≤ p then .ok [] else match paZ k L p with
    | .error e => .error e
    | .ok (x, p3) => match cxPs f (k + 1) p3 (L.drop p3) with
      | .error e => .error e
      | .ok l => .ok (x :: l) := by
  rw [cxPs_step]
  by_cases h0 : L.length ≤ p
  · rw [if_pos h0, if_pos (List.drop_eq_nil_of_le h0)]
  · rw [if_neg h0, if_neg (fun q => h0 (List.drop_eq_nil_iff.1 q))]
    unfold paZ
    cases h1 : patP k p (L.drop p) with
    | error e => rfl
    | ok z =>
      obtain ⟨x, p3, r3⟩ := z
      dsimp only
      have h2 : r3 = L.drop p3 := by
        unfold patP at h1
        cases h3 : namP [42, 42, 42, 32] p (L.drop p) with
        | error e => rw [h3] at h1; cases h1
        | ok z =>
          obtain ⟨n1, r1⟩ := z
          obtain ⟨rfl, _⟩ := nam_drop h3
          rw [h3] at h1
          dsimp only at h1
          split at h1
          · cases h1
          · cases h4 : namP [45, 45, 45, 32] (p + 1) (L.drop (p + 1)) with
            | error e => rw [h4] at h1; cases h1
            | ok z =>
              obtain ⟨n2, r2⟩ := z
              obtain ⟨rfl, _⟩ := nam_drop h4
              rw [h4] at h1
              dsimp only at h1
              cases h5 : cxHs ((L.drop (p + 1 + 1)).length + 1) 0 (p + 2) (L.drop (p + 1 + 1)) with
              | error e => rw [h5] at h1; cases h1
              | ok z =>
                obtain ⟨hs, p4, r4⟩ := z
                rw [h5] at h1
                cases h1
                exact (cxhs_drop _ (p := p + 2) h5).1
      rw [h2]
      cases cxPs f (k + 1) p3 (L.drop p3) <;> rfl
end Go.Proofs.YtgiojkhmkeocfaaGreatDoor
