/-
  A pair is put among the heads of its length: the region that draws its order, in a round.
-/
import Derived.Test.YtppdcjjkkckokaaPaRq
namespace Go.Proofs.Ytppdcjjkkckokaa
open Go.RowKit Go.Shelf
attribute [local go_sem] Oper.semAt_some

theorem R8.wpOpIn_call {F : Fence} {m : Nat} {P : Program} {ops : Array Oper} {Q : Exit → Act → World → Prop} {i : Nat} {o : Oper} {K : Act → World → Prop} {a : Act} {w : World} {f : FuncId} {args : Array Value} (ho : ops[i]? = some o) (hg : o.guard = none) (hnd : ∀ c, o.op ≠ .defer c)
    (hab : ∀ f, F.fn f) (hdp : F.depth = none) (hrun : (execOp a.eval o).run P w = .ok (.enter f args) w) {R : Value → World → Prop} (hc : CallsIn F (m - 1) P f args w fun e w' => ∃ v', e = .returned v' ∧ R v' w') (hK : ∀ v' u, R v' u → K (a.put o.dst v') u) : wpOpIn F m P ops Q i K a w := by
  unfold wpOpIn
  simp only [ho]
  have hw : Region.wanted o (yielded ops a.tmps) = true := by simp [Region.wanted, hg]
  rw [if_pos hw]
  refine ⟨fun f _ => hab f, ?_⟩
  rw [Oper.semAt_plain F _ _ hnd, hrun, Oper.uponIn_enter]
  refine ⟨fun h => (by rw [hdp] at h; cases h), hc.mono ?_⟩
  rintro e w' ⟨v', rfl, h⟩
  exact hK v' w' h
/-- a cell of a row, and it may be written -/
theorem row_cell {W : World} {base g k c m : Nat} {e : TypeId} {xs : List Value} (h : W.ownsRow base e 1 (.slice (some ⟨g, 0, none⟩) k c) m xs) {n : Nat} {v : Value} (hv : xs[n]? = some v) : W.cell? ⟨g, n, none⟩ = some v ∧ W.frozen? ⟨g, n, none⟩ = false := by
  have hn := (List.getElem?_eq_some_iff.1 hv).1
  obtain rfl : k = m := by
    rcases h.2 with ⟨h1, _⟩ | ⟨g', cap, cur, q1, _⟩
    · cases h1
    · cases q1; rfl
  have hl := h.1
  refine ⟨by rw [h.cellAt n (by omega), hv], h.frozenAt n⟩

set_option maxRecDepth 100000 in
set_option maxHeartbeats 4000000 in
theorem put_region {lp m : Nat} {Q : Exit → Act → World → Prop} {s0 s1 s2 s3 s5 s8 s9 s10 s11 s12 s13 s14 s15 s16 s17 s18 s19 s20 s21 s22 s23 s24 s25 : Value} (w : World) (N : Nat) (Z : List Int) (vl : Value) (vals : List Value) (H : List (List Pr)) (B4 Bx n g k c : Nat) (X Y : Int) (U : World) (v1 : Value) (h L : List Pr)
    (hB4 : B4 = w.heap.size + 1 + 1) (hP : Rp w N Z (.slice (some ⟨g, 0, none⟩) k c) vals H vl U) (hnk : n < k) (_hkl : k ≤ 2097152) (hv : vals[n]? = some v1)
    (cX : U.cell? ⟨Bx, 0, none⟩ = some (.int .i64 X)) (cY : U.cell? ⟨Bx, 1, none⟩ = some (.int .i64 Y))
    (hO : U.ownsRow w.heap.size 44 2 v1 h.length (prcells h)) (hs : Hid (Stair h)) (hn : Hid (¬ ∃ a ∈ h, ab a ⟨X, Y⟩)) (hl : h.length ≤ 1048576) (hL : Hid (ins h ⟨X, Y⟩ = L))
    (hQ : ∀ v' u, Grows w.heap.size U v1 v' L u → Q .normal { tmps := #[s0, s1, s2, s3, .pointer (some ⟨B4, 0, none⟩), s5, .pointer (some ⟨Bx, 0, none⟩), .int .i64 (n : Int), s8, s9, s10, s11, s12, s13, s14, s15, s16, s17, s18, s19, s20, s21, s22, s23, s24, s25, (.slice (some ⟨g, 0, none⟩) k c), (.int .i64 (n : Int)), (.slice (some ⟨g, 0, none⟩) k c), (.int .i64 (n : Int)), (.pointer (some ⟨g, n, none⟩)), v1, (prV ⟨X, Y⟩), v', .pointer (some ⟨g, n, none⟩), undef, undef, undef, undef, undef, undef], defers := [] } (u.setCell ⟨g, n, none⟩ v')) :
    Code.wpIn (Fence.wide.inRound lp) m Try.prog (Code.region 9 #[{ dst := some 26, op := Op.load 89 (Operand.tmp 4), type := 89, pos := "rising.go:40", after := #[], guard := none }, { dst := some 27, op := Op.move (Operand.tmp 7), type := 3, pos := "rising.go:40", after := #[], guard := none }, { dst := some 28, op := Op.load 89 (Operand.tmp 4), type := 89, pos := "rising.go:40", after := #[], guard := none }, { dst := some 29, op := Op.move (Operand.tmp 7), type := 3, pos := "rising.go:40", after := #[], guard := none }, { dst := some 30, op := Op.indexAddr 89 (Operand.tmp 28) (Operand.tmp 29), type := 0, pos := "rising.go:40", after := #[{ on := 2, ground := Ground.data }, { on := 3, ground := Ground.data }], guard := none }, { dst := some 31, op := Op.load 94 (Operand.tmp 30), type := 94, pos := "rising.go:40", after := #[{ on := 4, ground := Ground.data }], guard := none }, { dst := some 32, op := Op.load 44 (Operand.tmp 6), type := 44, pos := "rising.go:40", after := #[], guard := none }, { dst := some 33, op := Op.call { callee := Callee.value (Operand.func 63), args := #[Operand.tmp 31, Operand.tmp 32], argTypes := #[94, 44] }, type := 94, pos := "rising.go:40", after := #[{ on := 5, ground := Ground.data }, { on := 6, ground := Ground.data }], guard := none }, { dst := some 34, op := Op.indexAddr 89 (Operand.tmp 26) (Operand.tmp 27), type := 0, pos := "rising.go:40", after := #[{ on := 0, ground := Ground.data }, { on := 1, ground := Ground.data }, { on := 0, ground := Ground.phase }, { on := 1, ground := Ground.phase }, { on := 2, ground := Ground.phase }, { on := 3, ground := Ground.phase }, { on := 4, ground := Ground.phase }, { on := 5, ground := Ground.phase }, { on := 6, ground := Ground.phase }, { on := 7, ground := Ground.phase }], guard := none }, { dst := none, op := Op.store 94 (Operand.tmp 34) (Operand.tmp 33), type := 0, pos := "rising.go:40", after := #[{ on := 8, ground := Ground.data }, { on := 7, ground := Ground.data }, { on := 7, ground := Ground.chain }, { on := 0, ground := Ground.phase }, { on := 1, ground := Ground.phase }, { on := 2, ground := Ground.phase }, { on := 3, ground := Ground.phase }, { on := 4, ground := Ground.phase }, { on := 5, ground := Ground.phase }, { on := 6, ground := Ground.phase }, { on := 7, ground := Ground.phase }], guard := none }] true) Q { tmps := #[s0, s1, s2, s3, .pointer (some ⟨B4, 0, none⟩), s5, .pointer (some ⟨Bx, 0, none⟩), .int .i64 (n : Int), s8, s9, s10, s11, s12, s13, s14, s15, s16, s17, s18, s19, s20, s21, s22, s23, s24, s25, undef, undef, undef, undef, undef, undef, undef, undef, undef, undef, undef, undef, undef, undef, undef], defers := [] } U := by
  subst hB4
  have cA := hP.abox.cell
  obtain ⟨cv, fv⟩ := row_cell hP.al.row hv
  have hOd : U.drew.ownsRow w.heap.size 44 2 v1 h.length (prcells h) := hO
  have hbU : w.heap.size ≤ U.drew.heap.size := hP.low.size
  have y1 : Ty U.drew v1.ownBlock 44 := ty_row hOd
  obtain ⟨B4, hB4⟩ : ∃ B4, w.heap.size + 1 + 1 = B4 := ⟨_, rfl⟩
  have hfar : ∀ u, U.drew.grownBy u v1.ownBlock → u.cell? ⟨B4, 0, none⟩ = some (.slice (some ⟨g, 0, none⟩) k c) ∧ u.cell? ⟨g, n, none⟩ = some v1 ∧ u.frozen? ⟨g, n, none⟩ = false := fun u hg => by
    have hab : Boxed U.drew B4 89 (.slice (some ⟨g, 0, none⟩) k c) := by rw [← hB4]; exact hP.abox
    have hrow : U.drew.ownsRow w.heap.size 94 1 (.slice (some ⟨g, 0, none⟩) k c) vals.length vals := hP.al.row
    exact ⟨(bx_ty hab hg y1 (by decide)).cell, row_cell (ow_ty hrow hg y1 (by decide)) hv⟩
  rw [hB4] at cA hQ ⊢
  obtain ⟨ho1, hc1, rfl⟩ := (holds_of hO).form
  refine wpIn_region_any (by kernel_rfl) ?_
  refine R8.any8 (w := U.drew) (fun b v => { tmps := #[s0, s1, s2, s3, .pointer (some ⟨B4, 0, none⟩), s5, .pointer (some ⟨Bx, 0, none⟩), .int .i64 (n : Int), s8, s9, s10, s11, s12, s13, s14, s15, s16, s17, s18, s19, s20, s21, s22, s23, s24, s25, R8.pk (b 0) (.slice (some ⟨g, 0, none⟩) k c), R8.pk (b 1) (.int .i64 (n : Int)), R8.pk (b 2) (.slice (some ⟨g, 0, none⟩) k c), R8.pk (b 3) (.int .i64 (n : Int)), R8.pk (b 4) (.pointer (some ⟨g, n, none⟩)), R8.pk (b 5) (.slice ho1 h.length hc1), R8.pk (b 6) (prV ⟨X, Y⟩), R8.pk (b 7) v, undef, undef, undef, undef, undef, undef, undef], defers := [] }) (fun v u => Grows w.heap.size U.drew (.slice ho1 h.length hc1) v L u ∧ u.cell? ⟨B4, 0, none⟩ = some (.slice (some ⟨g, 0, none⟩) k c) ∧ u.cell? ⟨g, n, none⟩ = some (.slice ho1 h.length hc1) ∧ u.frozen? ⟨g, n, none⟩ = false ∧ ∃ ao' c', v = .slice ao' L.length c') (R8.chk_all (of_decide_eq_true (by kernel_rfl))) ?hstep ?hcall ?hfin undef
  case hstep =>
    rintro b ⟨i, hi⟩ h7 hbi hd hcl v u hst K hK
    have cA' : u.cell? ⟨B4, 0, none⟩ = some (.slice (some ⟨g, 0, none⟩) k c) := by
      rcases hst with ⟨_, rfl⟩ | ⟨_, hp⟩
      · exact cA
      · exact hp.2.1
    have hu : 2 ≤ i → u = U.drew := fun h2 => by
      rcases hst with ⟨_, rfl⟩ | ⟨q7, _⟩
      · rfl
      · obtain ⟨r2, r3, r4, r5, r6⟩ := R8.closed_call b hcl q7
        exfalso
        rcases (by omega : i = 2 ∨ i = 3 ∨ i = 4 ∨ i = 5 ∨ i = 6 ∨ i = 7) with rfl | rfl | rfl | rfl | rfl | rfl
        · exact absurd (r2.symm.trans hbi) (by decide)
        · exact absurd (r3.symm.trans hbi) (by decide)
        · exact absurd (r4.symm.trans hbi) (by decide)
        · exact absurd (r5.symm.trans hbi) (by decide)
        · exact absurd (r6.symm.trans hbi) (by decide)
        · exact h7 rfl
    rcases (by omega : i = 0 ∨ i = 1 ∨ i = 2 ∨ i = 3 ∨ i = 4 ∨ i = 5 ∨ i = 6 ∨ i = 7) with rfl | rfl | rfl | rfl | rfl | rfl | rfl | rfl
    · refine R8.wpOpIn_yield (v := .slice (some ⟨g, 0, none⟩) k c) rfl rfl (fun _ h => by cases h) rfl ?_ hK
      go_simp
    · refine R8.wpOpIn_yield (v := .int .i64 (n : Int)) rfl rfl (fun _ h => by cases h) rfl ?_ hK
      go_simp
    · refine R8.wpOpIn_yield (v := .slice (some ⟨g, 0, none⟩) k c) rfl rfl (fun _ h => by cases h) rfl ?_ hK
      go_simp
    · refine R8.wpOpIn_yield (v := .int .i64 (n : Int)) rfl rfl (fun _ h => by cases h) rfl ?_ hK
      go_simp
    · have e2 := R8.pk_true (hd 2 (by simp [R8.deps])) (.slice (some ⟨g, 0, none⟩) k c)
      have e3 := R8.pk_true (hd 3 (by simp [R8.deps])) (.int .i64 (n : Int))
      refine R8.wpOpIn_yield (v := .pointer (some ⟨g, n, none⟩)) rfl rfl (fun _ h => by cases h) rfl ?_ hK
      go_simp
    · obtain rfl := hu (by omega)
      have e4 := R8.pk_true (hd 4 (by simp [R8.deps])) (.pointer (some ⟨g, n, none⟩))
      refine R8.wpOpIn_yield (v := .slice ho1 h.length hc1) rfl rfl (fun _ h => by cases h) rfl ?_ hK
      go_simp
    · obtain rfl := hu (by omega)
      refine R8.wpOpIn_yield (v := prV ⟨X, Y⟩) rfl rfl (fun _ h => by cases h) rfl ?_ hK
      simp only [prV]
      go_simp
    · exact absurd rfl h7
  case hcall =>
    intro b v h7 h5 h6 K hK
    have e5 := R8.pk_true h5 (.slice ho1 h.length hc1)
    have e6 := R8.pk_true h6 (prV ⟨X, Y⟩)
    refine R8.wpOpIn_call (f := 63) (args := #[.slice ho1 h.length hc1, prV ⟨X, Y⟩]) (R := fun v' u => Grows w.heap.size U.drew (.slice ho1 h.length hc1) v' L u) rfl rfl (fun _ h => by cases h) (fun _ => trivial) rfl ?_ (CallsIn.inRound lp (callsIn_wide.2 (with_f h ⟨X, Y⟩ w.heap.size _ U.drew hOd hbU hs hn hl L hL))) ?_
    · go_simp
      exact ⟨rfl, rfl⟩
    · intro v' u hG
      obtain ⟨ao', c', rfl⟩ := (holds_of hG.1).form
      obtain ⟨f1, f2, f3⟩ := hfar u hG.2.1
      exact hK _ u ⟨hG, f1, f2, f3, ao', c', rfl⟩
  case hfin =>
    rintro _ u ⟨hG, f1, f2, f3, ao', c', rfl⟩
    have eT : ∀ v, R8.pk true v = v := fun _ => rfl
    simp only [eT]
    refine R8.wpOpIn_yield (v := .pointer (some ⟨g, n, none⟩)) rfl rfl (fun _ h => by cases h) rfl ?_ ?_
    · go_simp
    · refine wpAnyIn_ready (rs := [9]) (by kernel_rfl) (by simp) (AllReadyIn.cons rfl (fun K hK => ?_) AllReadyIn.nil)
      go_simp
      refine hK _ _ ⟨by kernel_rfl, ?_⟩
      exact hQ _ u ⟨hG.1, (drew_grown U _).trans hG.2.1, hG.2.2⟩
/-- the heads, and one pair more -/
theorem heads_step {R : List (Nat × Pr)} {H H' : List (List Pr)} {p : Pr} {n : Nat} (i : Nat) (hR : Hds (R.map (·.2)) H ∧ H.length ≤ R.length ∧ ∀ h ∈ H, h.length ≤ R.length) (hn : n ≤ H.length) (hh : (∀ m, m < n → Hd (R.map (·.2)) m p) ∧ ¬ Hd (R.map (·.2)) n p) (e : H' = room H n) :
    ∃ h, H'[n]? = some h ∧ Stair h ∧ (¬ ∃ a ∈ h, ab a p) ∧ h.length ≤ R.length ∧ Hds (((i, p) :: R).map (·.2)) (H'.set n (ins h p)) ∧ (H'.set n (ins h p)).length ≤ ((i, p) :: R).length ∧ ∀ x ∈ H'.set n (ins h p), x.length ≤ ((i, p) :: R).length := by
  have hm : ∀ x ∈ H', x.length ≤ R.length := fun x hx => by
    rw [e] at hx
    unfold room at hx
    split at hx
    · rcases List.mem_append.1 hx with q | q
      · exact hR.2.2 x q
      · simp at q
        simp [q]
    · exact hR.2.2 x hx
  have hlen : H'.length ≤ H.length + 1 ∧ n < H'.length := by
    rw [e]
    unfold room
    split
    · simp; omega
    · exact ⟨by omega, by omega⟩
  have hg : H'[n]? = some H'[n] := List.getElem?_eq_getElem hlen.2
  obtain ⟨q1, _, q3, q4⟩ := hR.1.step hn hh.1 hh.2 (H'[n]) (by rw [← e]; exact hg)
  rw [← e] at q1
  refine ⟨_, hg, q3, q4, hm _ (List.getElem_mem _), q1, by have := hR.2.1; simp; omega, fun x hx => ?_⟩
  rcases List.mem_or_eq_of_mem_set hx with q | q
  · have := hm x q
    simp
    omega
  · rw [q]
    have h1 := ins_len (H'[n]) p (upto_grt q3 q4)
    have h2 := hm _ (List.getElem_mem hlen.2)
    simp
    omega
theorem blk_ty {W W' : World} {row : Option Nat} {e : TypeId} {B : Nat} {t : TypeId} {cs : Array Value} (h : W.heap[B]? = some (.cells cs t (0, 0))) (hg : W.grownBy W' row) (hy : Ty W row e) (hne : t ≠ e) : W'.heap[B]? = some (.cells cs t (0, 0)) := by
  refine (hg.block B (Array.getElem?_eq_some_iff.1 h).1 (fun q => ?_)).trans h
  obtain ⟨cur, h2⟩ := hy B q.symm
  rw [h] at h2
  cases h2
  exact hne rfl
theorem Rp.more_blk {w : World} {n : Nat} {Z : List Int} {va va' : Value} {vals : List Value} {H : List (List Pr)} {vl : Value} {W w1 : World} (h : Rp w n Z va vals H vl W) (hg : W.grownBy w1 va.ownBlock) {B : Nat} {cs : Array Value} (hx : W.heap[B]? = some (.cells cs 44 (0, 0))) : (w1.setCell ⟨w.heap.size + 1 + 1, 0, none⟩ va').heap[B]? = some (.cells cs 44 (0, 0)) := by
  have y1 : Ty W va.ownBlock 94 := ty_row h.al.row
  have a1 := bx_ty h.abox hg y1 (by decide)
  have y2 : Ty w1 (some (w.heap.size + 1 + 1)) 89 := fun q hq => by cases hq; exact ⟨_, a1⟩
  exact blk_ty (blk_ty hx hg y1 (by decide)) (grownBy_setCell' w1 (w.heap.size + 1 + 1) va') y2 (by decide)

end Go.Proofs.Ytppdcjjkkckokaa
