/-
  What a script keeps, as runs: the loop over the iterator that collects them.
-/
import Derived.Test.YtppdcjjkkckokaaEdOwn
namespace Go.Proofs.Ytppdcjjkkckokaa
open Go.RowKit Go.Shelf
attribute [local go_sem] Oper.semAt_some

set_option maxRecDepth 100000 in
set_option maxHeartbeats 2000000 in
theorem runs_any (l : List Ch) (n m : Int) (v : Value) (w : World) (hl : HCh w v l) (hS : Script l n m) (hn : n ≤ 9223372036854775807) (hm : m ≤ 9223372036854775807) (hlen : l.length ≤ 1048576) :
    Calls Try.prog 33 #[v, .int .i64 n, .int .i64 m] w fun e w' => ∃ v', e = .returned v' ∧ w'.ownsRow w.heap.size 62 3 v' (piecesL 0 0 n m l).length (rncells ((piecesL 0 0 n m l).map (·.1))) ∧ Below w.heap.size w w' := by
  obtain ⟨ao, ca, rfl⟩ := Holds.form hl
  refine (callsIn_wide (n := 3)).1 ?_
  refine callsIn_of_wp_marks Try.func33 rfl trivial ?_ rfl
  simp only [Try.ntmps33, List.size_toArray, List.length_cons, List.length_nil, Nat.reduceAdd, Nat.reduceSub, Array.replicate_succ, Array.replicate_zero, List.push_toArray, List.append_toArray, List.nil_append, List.cons_append]
  gi_wp2_with (refine ⟨trivial, ?_⟩; gi_at_call 54; refine (callsIn_wide.2 (pieces_any _ _ _ _ _ _)).mono ?_; rintro e w' ⟨rfl, rfl⟩)
  obtain ⟨W0, hW0⟩ : ∃ W0, ((((w.alloc (Obj.cells #[Value.slice none 0 0] 53)).alloc (Obj.cells #[Value.slice ao l.length ca] 22)).alloc (Obj.cells #[Value.int IntKind.i64 n] 3)).alloc (Obj.cells #[Value.int IntKind.i64 m] 3)) = W0 := ⟨_, rfl⟩
  have hsz : W0.heap.size = w.heap.size + 4 := by rw [← hW0]; simp
  have hB0 : Below w.heap.size w W0 := by rw [← hW0]; exact ((((Below.refl _ w).alloc (Nat.le_refl _) _).alloc (by simp) _).alloc (by simp; omega) _).alloc (by simp; omega) _
  have bK : Boxed W0 w.heap.size 53 (.slice none 0 0) := by rw [← hW0]; exact (((Boxed.new w 53 (.slice none 0 0)).alloc _).alloc _).alloc _
  have b0 : Boxed W0 (w.heap.size + 1) 22 (.slice ao l.length ca) := by
    rw [← hW0]
    have := Boxed.new (w.alloc (Obj.cells #[Value.slice none 0 0] 53)) 22 (.slice ao l.length ca)
    rw [World.size_alloc] at this
    exact (this.alloc _).alloc _
  have b1 : Boxed W0 (w.heap.size + 1 + 1) 3 (.int .i64 n) := by
    rw [← hW0]
    have := Boxed.new ((w.alloc (Obj.cells #[Value.slice none 0 0] 53)).alloc (Obj.cells #[Value.slice ao l.length ca] 22)) 3 (.int .i64 n)
    rw [World.size_alloc, World.size_alloc] at this
    exact this.alloc _
  have b2 : Boxed W0 (w.heap.size + 1 + 1 + 1) 3 (.int .i64 m) := by
    rw [← hW0]
    have := Boxed.new (((w.alloc (Obj.cells #[Value.slice none 0 0] 53)).alloc (Obj.cells #[Value.slice ao l.length ca] 22)).alloc (Obj.cells #[Value.int IntKind.i64 n] 3)) 3 (.int .i64 m)
    rw [World.size_alloc, World.size_alloc, World.size_alloc] at this
    exact this
  rw [hW0]
  refine wpIn_rangeFunc_ownH rfl (by omega) (gf := 70) (lb := #[.pointer (some ⟨w.heap.size + 1, 0, none⟩), .pointer (some ⟨w.heap.size + 1 + 1, 0, none⟩), .pointer (some ⟨w.heap.size + 1 + 1 + 1, 0, none⟩)]) rfl trivial (enters_of Try.func70 (by kernel_rfl) rfl)
    (pieces_stops 2 (by omega) (w.heap.size + 1) w.heap.size ao ca l n m hS hn hm (by omega) W0 (by omega) (by omega) b0 b1 b2 (HCh.keep hl hB0 (Nat.le_refl _)) (fun a ha h0 => HCh.lt hl a ha h0)) Kp.trans (Kp.putObj (by omega) (by omega)) (Below.refl _ _) (fun _ => rfl)
    (fun pre W => (∃ v, OwnR w.heap.size (w.heap.size + 1) w.heap.size 53 62 3 v pre.length (rncells (pre.map (·.1.1))) W) ∧ Below w.heap.size W0 W)
    (fun _ _ _ => False)
    (ownR_own (by omega) (by omega) _ _)
    (fun _ _ _ _ _ hs _ _ => hs)
    ⟨⟨_, bK, World.ownsRow_nil _ _ _ _, fun g hg => by cases hg⟩, Below.refl _ _⟩
    (fun x a' W => ∃ Bx, W.heap[Bx]? = some (Obj.cells #[.int .i64 x.1.1.a, .int .i64 x.1.1.b, .int .i64 x.1.1.n] 62 (0, 0)) ∧ a' = { tmps := #[.slice ao l.length ca, .int .i64 n, .int .i64 m, undef, undef, undef, .slice none 0 0, .pointer (some ⟨w.heap.size, 0, none⟩), .pointer (some ⟨Bx, 0, none⟩), .slice ao l.length ca, .int .i64 n, .int .i64 m, .func (.func 70) #[] #[.pointer (some ⟨w.heap.size + 1, 0, none⟩), .pointer (some ⟨w.heap.size + 1 + 1, 0, none⟩), .pointer (some ⟨w.heap.size + 1 + 1 + 1, 0, none⟩)], rnV x.1.1, chV x.1.2, undef, undef, undef, undef, undef], defers := [] })
    ?hAx ?assign ?body ?done ?stop
  case hAx =>
    rintro x a' _ A B row ⟨Bx, hx, rfl⟩ hg hr
    refine ⟨Bx, (hg.block Bx (Array.getElem?_eq_some_iff.1 hx).1 (fun e => ?_)).trans hx, rfl⟩
    obtain ⟨_, o, ho, hc⟩ := hr Bx e.symm
    rw [hx] at ho
    cases ho
    cases hc
  case assign =>
    rintro lp pre x W K ⟨⟨v, hO⟩, hB⟩ hK
    have hs := hB.size
    simp only [rnV, chV]
    gi_wp2
    exact hK _ _ ((KeepsOthers.alloc _ _).from _) (Kp.alloc (by omega) (by omega) _) ⟨⟨v, hO.alloc _⟩, hB.alloc (by omega) _⟩ ⟨W.heap.size, _root_.Go.heap_alloc_new W _, rfl⟩
  case body =>
    rintro lp pre x a' W hlp ⟨r, hr⟩ ⟨⟨v, hO⟩, hB⟩ ⟨Bx, hx, rfl⟩ hlt
    have hs := hB.size
    have hc := hO.box.cell
    have x0 : W.cell? ⟨Bx, 0, none⟩ = some (.int .i64 x.1.1.a) := by rw [Lib.cell_of_heap hx]; rfl
    have x1 : W.cell? ⟨Bx, 1, none⟩ = some (.int .i64 x.1.1.b) := by rw [Lib.cell_of_heap hx]; rfl
    have x2 : W.cell? ⟨Bx, 2, none⟩ = some (.int .i64 x.1.1.n) := by rw [Lib.cell_of_heap hx]; rfl
    gi_wp2_with (gi_at_builtin; refine wpListIn_append_h _ rfl (.tmp 15) (.tmp 17) 53 62 rfl (.agg #[.int .i64 0, .int .i64 0, .int .i64 0]) 3 24 Try.underlying53 infoRn rfl (by decide) (by decide) w.heap.size v _ _ rfl (hO.row.alloc _) _ 1 (rncells [x.1.1]) rfl (new_holds _ _ _ _ _ (by decide)) rfl (rncells_one _) (by omega) (by simp; omega) ?_; intro v' w1 hown' hgrow hp; obtain ⟨g', cap', rfl⟩ := ownsRow_succ hown'; obtain ⟨hv1, hO2, hk2, hp2, _⟩ := (hO.alloc _).appended (by decide) (by decide) (by decide) (Nat.le_refl _) (by omega) (by simp; omega) hown' hgrow hp; have hc1 := hv1.cell; have hf1 := hv1.frozen)
    have hkp := (Kp.alloc (W := W) (n₀ := w.heap.size) (lo := w.heap.size + 1) (by omega) (by omega) _).trans hp2
    refine ⟨((KeepsOthers.alloc W _).trans hk2).from _, hkp, ⟨.slice (some ⟨g', 0, none⟩) (pre.length + 1) cap', ?_⟩, hB.trans hkp.low⟩
    rw [← rncells_append] at hO2
    simpa using hO2
  case done =>
    rintro D ys W hD hys ⟨⟨v, hO⟩, hB⟩ hK
    have hc := hO.box.cell
    gi_wp2
    refine ⟨by simp, .inl ⟨_, _, rfl, run_takeDeferred hK, ?_⟩⟩
    refine ⟨_, results_tmp rfl _ _ _, v, rfl, ?_, (hB0.trans hB).trans (belowK_b (w := w) (Nat.le_refl _) W D _ _ (by omega) hK rfl rfl)⟩
    have := ownsRow_putObj hO.row (Obj.deferred none) hK rfl
    rw [← hys]
    simpa [Function.comp_def] using this
  case stop =>
    rintro D c pre W _ _ h _
    exact h.elim
end Go.Proofs.Ytppdcjjkkckokaa
