/-
  Texts that belong together, joined: PaRf, PaLg, PaPl, PaUn, PaFd, PaLs, PaTr, MiRk, PcLe, PaPi, PaOp, PaDf.
-/
import Derived.Test.YtnlbjknfahhfaaaGreatDoorPartA10
import Derived.Test.YtnlbjknfahhfaaaGreatDoorPartA9
import Derived.Test.YtnlbjknfahhfaaaGreatDoorPartA6
import Derived.Maps.OwnSet
import Derived.Carry
import Derived.Test.YtnlbjknfahhfaaaGreatDoorPartA8
import Derived.Test.YtnlbjknfahhfaaaGreatDoorPartA5
import Derived.Laws.Rows
import Derived.Deep.CutRange
import Derived.Laws.EntriesVeiled

/- How long the longest rising row is that begins with each member: risingFrom, walked. -/
set_option maxRecDepth 20000
namespace Go.Proofs.YtnlbjknfahhfaaaGreatDoor
open Go.RowKit Go.Shelf
attribute [local go_sem] Oper.semAt_some

theorem low_blk {W W' : World} (h : Low W W') {B : Nat} {o : Obj} (hx : W.heap[B]? = some o) : W'.heap[B]? = some o := (Below.block h B (Array.getElem?_eq_some_iff.1 hx).1).trans hx
set_option maxRecDepth 100000 in
set_option maxHeartbeats 4000000 in
theorem rising_f (l : List Pr) (v : Value) (w : World) (hl : HPr w v l) (hlen : l.length ≤ 1048576) :
    Calls Tryz.prog 128 #[v] w fun e w' => ∃ v', e = .returned v' ∧ w'.ownsRow w.heap.size 3 1 v' l.length (icells ((rl l).map (fun (n : Nat) => (n : Int)))) ∧ Below w.heap.size w w' := by
  obtain ⟨ao, ca, rfl⟩ := Holds.form hl
  have hmk := run_makeN (T := 55) Tryz.underlying55 infoInt (by decide) (l.length : Int) l.length rfl (by omega)
  have hrow := World.ownsRow_lit (base := w.heap.size) (e := 3) (size := 1) w (madeCells #[.int .i64 0] l.length) l.length (Nat.le_refl _) (by unfold maxLen; omega) (by rw [size_madeCells]; simp)
  rw [madeL] at hrow
  refine (callsIn_wide (n := 3)).1 ?_
  refine callsIn_of_wp_marks Tryz.func128 rfl trivial ?_ rfl
  simp only [Tryz.ntmps128, List.size_toArray, List.length_cons, List.length_nil, Nat.reduceAdd, Nat.reduceSub, Array.replicate_succ, Array.replicate_zero, List.push_toArray, List.append_toArray, List.nil_append, List.cons_append]
  gi_wp2_with (refine ⟨trivial, ?_⟩; gi_at_call 137; refine (callsIn_wide.2 (Backward_any _ _ _ _)).mono ?_; rintro e w' ⟨rfl, rfl⟩)
  obtain ⟨W0, hW0⟩ : ∃ W0, ((((w.alloc (Obj.cells (madeCells #[Value.int IntKind.i64 0] l.length) 3)).alloc (Obj.cells #[Value.slice (some { block := w.heap.size, off := 0 }) l.length l.length] 55)).alloc (Obj.cells #[Value.slice none 0 0] 236)).alloc (Obj.cells #[Value.slice ao l.length ca] 185)) = W0 := ⟨_, rfl⟩
  have hsz : W0.heap.size = w.heap.size + 4 := by rw [← hW0]; simp
  have hB0 : Below w.heap.size w W0 := by rw [← hW0]; exact ((((Below.refl _ w).alloc (Nat.le_refl _) _).alloc (by simp) _).alloc (by simp; omega) _).alloc (by simp; omega) _
  have hrow0 : W0.ownsRow w.heap.size 3 1 (.slice (some ⟨w.heap.size, 0, none⟩) l.length l.length) l.length (icells (lz l.length [])) := by
    rw [← hW0, lz]
    have := ((hrow.alloc (Obj.cells #[Value.slice (some { block := w.heap.size, off := 0 }) l.length l.length] 55)).alloc (Obj.cells #[Value.slice none 0 0] 236)).alloc (Obj.cells #[Value.slice ao l.length ca] 185)
    simpa [icells] using this
  have b1 : Boxed W0 (w.heap.size + 1) 55 (.slice (some ⟨w.heap.size, 0, none⟩) l.length l.length) := by
    rw [← hW0]
    have := Boxed.new (w.alloc (Obj.cells (madeCells #[Value.int IntKind.i64 0] l.length) 3)) 55 (.slice (some ⟨w.heap.size, 0, none⟩) l.length l.length)
    rw [World.size_alloc] at this
    exact (this.alloc _).alloc _
  have b2 : Boxed W0 (w.heap.size + 1 + 1) 236 (.slice none 0 0) := by
    rw [← hW0]
    have := Boxed.new ((w.alloc (Obj.cells (madeCells #[Value.int IntKind.i64 0] l.length) 3)).alloc (Obj.cells #[Value.slice (some { block := w.heap.size, off := 0 }) l.length l.length] 55)) 236 (.slice none 0 0)
    rw [World.size_alloc, World.size_alloc] at this
    exact this.alloc _
  have b3 : Boxed W0 (w.heap.size + 1 + 1 + 1) 185 (.slice ao l.length ca) := by
    rw [← hW0]
    have := Boxed.new (((w.alloc (Obj.cells (madeCells #[Value.int IntKind.i64 0] l.length) 3)).alloc (Obj.cells #[Value.slice (some { block := w.heap.size, off := 0 }) l.length l.length] 55)).alloc (Obj.cells #[Value.slice none 0 0] 236)) 185 (.slice ao l.length ca)
    rw [World.size_alloc, World.size_alloc, World.size_alloc] at this
    exact this
  rw [hW0]
  clear hmk hrow
  refine wpIn_rangeFunc_ownH rfl (by omega) (gf := 160) (lb := #[.pointer (some ⟨w.heap.size + 1 + 1 + 1, 0, none⟩)]) rfl trivial (enters_of Tryz.func160 (by kernel_rfl) rfl)
    (back_stops 2 (by omega) (w.heap.size + 1 + 1 + 1) w.heap.size ao ca l hlen W0 (by omega) (by omega) b3 (HPr.keep hl hB0 (Nat.le_refl _)) (fun a ha h0 => HPr.lt hl a ha h0)) Kq.trans (Kq.putObj (by omega) (by omega)) (Below.refl _ _) (fun _ => rfl)
    (fun pre W => ∃ va vals H, Rs w l.length ((pre.map (·.1)).reverse) va vals H W ∧ Boxed W (w.heap.size + 1 + 1 + 1) 185 (.slice ao l.length ca))
    (fun _ _ _ => False)
    (fun pre W W' row hI hg hr => by
      obtain ⟨va, vals, H, h1, h2⟩ := hI
      exact ⟨va, vals, H, h1.own hg (fun r e => ⟨by have := (hr r e).1; omega, (hr r e).2⟩), boxed_kept_cells h2 hg (fun r e => (hr r e).2)⟩)
    (fun _ _ _ _ _ hs _ _ => hs)
    ⟨.slice none 0 0, [], [], ⟨hB0, b1, hrow0, b2, ⟨World.ownsRow_nil _ _ _ _, rfl, fun n v h hv => by simp at hv, fun i j v v' g _ hv => by simp at hv⟩, Hds.start, Nat.le_refl _, fun h hh => by simp at hh⟩, b3⟩
    (fun x a' W => ∃ Bx, W.heap[Bx]? = some (Obj.cells #[.int .i64 x.1.2.X, .int .i64 x.1.2.Y] 189 (0, 0)) ∧ a' = { tmps := #[.slice ao l.length ca, undef, .slice none 0 0, .pointer (some ⟨w.heap.size + 1, 0, none⟩), .pointer (some ⟨w.heap.size + 1 + 1, 0, none⟩), .int .i64 (x.1.1 : Int), .pointer (some ⟨Bx, 0, none⟩), undef, .slice ao l.length ca, .int .i64 (l.length : Int), .slice (some ⟨w.heap.size, 0, none⟩) l.length l.length, .slice ao l.length ca, .func (.func 160) #[] #[.pointer (some ⟨w.heap.size + 1 + 1 + 1, 0, none⟩)], .int .i64 (x.1.1 : Int), prV x.1.2, undef, undef, undef, undef, undef, undef, undef, undef, undef, undef, undef, undef, undef, undef, undef, undef, undef, undef, undef, undef, undef, undef, undef, undef, undef, undef], defers := [] })
    ?hAx ?assign ?body ?done ?stop
  case hAx =>
    rintro x a' _ A B row ⟨Bx, hx, rfl⟩ hg hr
    refine ⟨Bx, (hg.block Bx (Array.getElem?_eq_some_iff.1 hx).1 (fun e => ?_)).trans hx, rfl⟩
    obtain ⟨_, o, ho, hc⟩ := hr Bx e.symm
    rw [hx] at ho
    cases ho
    cases hc
  case assign =>
    rintro lp pre x W K ⟨va, vals, H, hR, hb⟩ hK
    have hs := hR.low.size
    have hlt := hb.lt
    simp only [prV]
    gi_wp2
    exact hK _ _ ((KeepsOthers.alloc _ _).from _) (Kq.alloc (by omega) (by omega) _) ⟨va, vals, H, hR.keep ((Below.refl _ W).alloc (Nat.le_refl _) _), hb.alloc _⟩ ⟨W.heap.size, _root_.Go.heap_alloc_new W _, rfl⟩
  case body =>
    rintro lp pre x a' W hlp ⟨r, hr⟩ ⟨va, vals, H, hR, hb⟩ ⟨Bx, hx, rfl⟩ hlt
    obtain ⟨⟨i, X, Y⟩, hi⟩ := x
    dsimp only at hi hx
    have hs := hR.low.size
    have HE : Hid (((pre ++ [(⟨(i, ⟨X, Y⟩), hi⟩ : Mp l.length)]).map (·.1)).reverse = (i, ⟨X, Y⟩) :: (pre.map (·.1)).reverse) := (by show _ = _; simp)
    have hRl : ((pre.map (·.1)).reverse).length = pre.length := by simp
    generalize (pre.map (·.1)).reverse = R at hR HE hRl
    obtain ⟨h1, h2, h3⟩ := mxl_hd hR.hd ⟨X, Y⟩
    obtain ⟨n, hn⟩ : ∃ n, mxl ⟨X, Y⟩ (R.map (·.2)) (rl (R.map (·.2))) = n := ⟨_, rfl⟩
    rw [hn] at h1 h2 h3
    have HN : Hid (mxl ⟨X, Y⟩ (R.map (·.2)) (rl (R.map (·.2))) = n) := hn
    have HH : Hid ((∀ m, m < n → Hd (R.map (·.2)) m ⟨X, Y⟩) ∧ ¬ Hd (R.map (·.2)) n ⟨X, Y⟩) := ⟨h1, h2⟩
    clear h1 h2 hn
    have c4 := hR.abox.cell
    have HVL : Hid (vals.length = H.length) := hR.al.len
    have hHl := hR.hl
    have cX : W.cell? ⟨Bx, 0, none⟩ = some (.int .i64 X) := by rw [Lib.cell_of_heap hx]; rfl
    have cY : W.cell? ⟨Bx, 1, none⟩ = some (.int .i64 Y) := by rw [Lib.cell_of_heap hx]; rfl
    have hbx := (Array.getElem?_eq_some_iff.1 hx).1
    obtain ⟨vo, vc, rfl⟩ := (holds_of hR.al.row).form
    have hst : Hid (∀ h ∈ H, Stair h ∧ h.length ≤ 1048576) := fun h hh => ⟨hR.hd.st h hh, by have := hR.hh h hh; omega⟩
    have hsr : Calls Tryz.prog 138 #[.int .i64 (vals.length : Int), .func (.func 139) #[] #[.pointer (some ⟨w.heap.size + 1 + 1, 0, none⟩), .pointer (some ⟨Bx, 0, none⟩)]] W fun e w' => e = .returned (.int .i64 (n : Int)) ∧ Low W w' :=
      Search_f 139 #[.pointer (some ⟨w.heap.size + 1 + 1, 0, none⟩), .pointer (some ⟨Bx, 0, none⟩)] vals.length n (fun i => !decide (i < n)) (fun u => Low W u) W (Below.refl _ _) (enters_of Tryz.func139 (by kernel_rfl) rfl) (by have := HVL.out; omega) (by have := HVL.out; omega)
        (fun i hi u hu => rf1_f H ⟨X, Y⟩ i (w.heap.size + 1 + 1) Bx w.heap.size _ vals W u hu hR.al c4 hR.abox.lt cX cY hbx (by have := HVL.out; omega) hst (by omega) (decide (i < n)) (by
          show _ ↔ _
          have hiH : i < H.length := (by have := HVL.out; omega)
          rw [hR.hd.eq i H[i] (List.getElem?_eq_getElem hiH) ⟨X, Y⟩]
          constructor
          · intro q
            exact HH.out.1 i (of_decide_eq_true q)
          · intro q
            refine decide_eq_true ?_
            by_cases c : i < n
            · exact c
            · exact absurd (q.downs (by omega)) HH.out.2))
        (fun i hi => by simp [hi]) (fun i hi _ => by simp; omega)
    have hRp : Rp w l.length (lz l.length R) (.slice vo vals.length vc) vals H (.slice ao l.length ca) W := ⟨hR.low, hR.lbox, hR.lrow, hR.abox, hR.al, hb⟩
    have HRest : Hid (Hds (R.map (·.2)) H ∧ H.length ≤ R.length ∧ ∀ h ∈ H, h.length ≤ R.length) := ⟨hR.hd, hR.hl, hR.hh⟩
    clear hR hb hst hHl
    by_cases hnl : n = vals.length
    · have e1 : ((n : Int) == (vals.length : Int)) = true := by simp; omega
      have HNL : Hid (n = vals.length) := hnl
      have hvb : vals.length ≤ 1048576 := by have := HVL.out; have := HRest.out.2.1; omega
      clear hnl
      gi_wp2_with (first
        | (refine ⟨trivial, ?_⟩; gi_at_call 138; refine (CallsIn.inRound lp (callsIn_wide.2 hsr)).mono ?_; rintro e W1 ⟨rfl, hL1⟩; obtain ⟨hP1, hS1⟩ := hRp.lo hL1; have c4' := hP1.abox.cell; obtain ⟨hP2, hS2⟩ := hP1.lo (W' := W1.alloc (Obj.cells #[.slice none 0 0] 241)) ((Below.refl _ W1).alloc (Nat.le_refl _) _))
        | (gi_at_builtin; refine wpListIn_append_h _ rfl (.tmp 23) (.tmp 24) 236 241 rfl (.slice none 0 0) 1 24 Tryz.underlying236 infoHd rfl (by decide) (by decide) w.heap.size (.slice vo vals.length vc) vals.length vals rfl hP2.al.row _ 1 [.slice none 0 0] rfl (new_holds _ _ _ 1 1 (by decide)) rfl (by simp [Value.oneCell']) (by omega) (by simp; have := hP1.low.size; omega) ?_; intro v3 u1 hown3 hgrow3 _; obtain ⟨hP3, hS3⟩ := hP2.more hown3 hgrow3; have b3 := bx_ty hP2.abox hgrow3 (ty_row hP2.al.row) (by decide); have c3 := b3.cell; have f3 := b3.frozen; obtain ⟨g3, vc3, rfl⟩ := ownsRow_succ hown3))
      have hx3 := hP2.more_blk (va' := .slice (some ⟨g3, 0, none⟩) (vals.length + 1) vc3) hgrow3 (low_blk ((Below.refl _ W1).alloc (Nat.le_refl _) _) (low_blk hL1 hx))
      obtain ⟨hd, hhd, hst, hno, hdl, hH1, hH2, hH3⟩ := heads_step i HRest.out h3 HH.out (H' := H ++ [[]]) (by unfold room; rw [if_pos (by have := HVL.out; have := HNL.out; omega)])
      have hvn : n < (vals ++ [Value.slice none 0 0]).length := by have := hP3.al.len; have := (List.getElem?_eq_some_iff.1 hhd).1; omega
      obtain ⟨v1, hv1⟩ : ∃ v1, (vals ++ [Value.slice none 0 0])[n]? = some v1 := ⟨_, List.getElem?_eq_getElem hvn⟩
      have hOw := hP3.al.own n v1 hd hv1 hhd
      have HD : Hid (Hds (((i, ⟨X, Y⟩) :: R).map (·.2)) ((H ++ [[]]).set n (ins hd ⟨X, Y⟩)) ∧ ((H ++ [[]]).set n (ins hd ⟨X, Y⟩)).length ≤ ((i, (⟨X, Y⟩ : Pr)) :: R).length ∧ ∀ x ∈ (H ++ [[]]).set n (ins hd ⟨X, Y⟩), x.length ≤ ((i, (⟨X, Y⟩ : Pr)) :: R).length) := ⟨hH1, hH2, hH3⟩
      clear hH1 hH2 hH3
      refine put_region w l.length (lz l.length R) (.slice ao l.length ca) (vals ++ [Value.slice none 0 0]) (H ++ [[]]) _ Bx n g3 (vals.length + 1) vc3 X Y _ v1 hd (ins hd ⟨X, Y⟩) rfl hP3 (by first | omega | (simp at hvn; omega)) (by have := HVL.out; have := HRest.out.2.1; omega) hv1 (by rw [Lib.cell_of_heap hx3]; rfl) (by rw [Lib.cell_of_heap hx3]; rfl) hOw hst hno (by omega) rfl ?_
      intro v' u hG
      obtain ⟨hP5, hS5⟩ := hP3.put (m := n) (by rw [hhd]; exact hOw) hv1 hG
      have hS6 := ((hS1.trans hS2).trans hS3).trans hS5
      generalize u.setCell ⟨g3, n, none⟩ v' = W5 at hP5 hS6 ⊢
      have cl := hP5.lbox.cell
      have cw : W5.cell? ⟨w.heap.size, i, none⟩ = some (.int .i64 ((lz l.length R)[i]'(by rw [lz_length]; exact hi))) ∧ W5.frozen? ⟨w.heap.size, i, none⟩ = false := row_cell hP5.lrow (by simp [icells, lz_length, hi])
      obtain ⟨cw1, cw2⟩ := cw
      have hnb : n ≤ 1048576 := by have := HRest.out.2.1; omega
      obtain ⟨hP7, hS7⟩ := hP5.write i ((n + 1 : Nat) : Int)
      have hS8 := hS6.trans hS7
      rw [Int.natCast_add, Int.natCast_one] at hP7 hS8
      clear hS7 hG hP5 hS5 hS6
      gi_wp2
      refine ⟨hS8.ko.from _, hS8.kq, _, _, _, ⟨hP7.low, hP7.lbox, ?_, hP7.abox, hP7.al, ?_, ?_, ?_⟩, hP7.ibox⟩
      · rw [HE.out]
        show World.ownsRow _ _ _ _ _ _ (icells ((lz l.length R).set i ((mxl ⟨X, Y⟩ (R.map (·.2)) (rl (R.map (·.2))) + 1 : Nat) : Int)))
        rw [HN.out, Int.natCast_add, Int.natCast_one]
        exact hP7.lrow
      · rw [HE.out]; exact HD.out.1
      · rw [HE.out]; exact HD.out.2.1
      · rw [HE.out]; exact HD.out.2.2
    · have e1 : ((n : Int) == (vals.length : Int)) = false := by simp; omega
      have hnl2 : n < vals.length := by have := HVL.out; omega
      clear hnl
      gi_wp2_with (refine ⟨trivial, ?_⟩; gi_at_call 138; refine (CallsIn.inRound lp (callsIn_wide.2 hsr)).mono ?_; rintro e W1 ⟨rfl, hL1⟩; obtain ⟨hP1, hS1⟩ := hRp.lo hL1; have c4' := hP1.abox.cell)
      have hx1 := low_blk hL1 hx
      obtain ⟨g1, rfl⟩ : ∃ g1, vo = some ⟨g1, 0, none⟩ := by
        obtain ⟨g1, q, _⟩ := hP1.al.cell (List.getElem?_eq_getElem hnl2)
        exact ⟨g1, q⟩
      obtain ⟨hd, hhd, hst, hno, hdl, hH1, hH2, hH3⟩ := heads_step i HRest.out h3 HH.out (H' := H) (by unfold room; rw [if_neg (by have := HVL.out; omega)])
      have hvn : n < (vals).length := by have := hP1.al.len; have := (List.getElem?_eq_some_iff.1 hhd).1; omega
      obtain ⟨v1, hv1⟩ : ∃ v1, (vals)[n]? = some v1 := ⟨_, List.getElem?_eq_getElem hvn⟩
      have hOw := hP1.al.own n v1 hd hv1 hhd
      have HD : Hid (Hds (((i, ⟨X, Y⟩) :: R).map (·.2)) ((H).set n (ins hd ⟨X, Y⟩)) ∧ ((H).set n (ins hd ⟨X, Y⟩)).length ≤ ((i, (⟨X, Y⟩ : Pr)) :: R).length ∧ ∀ x ∈ (H).set n (ins hd ⟨X, Y⟩), x.length ≤ ((i, (⟨X, Y⟩ : Pr)) :: R).length) := ⟨hH1, hH2, hH3⟩
      clear hH1 hH2 hH3
      refine put_region w l.length (lz l.length R) (.slice ao l.length ca) (vals) (H) _ Bx n g1 vals.length vc X Y _ v1 hd (ins hd ⟨X, Y⟩) rfl hP1 (by first | omega | (simp at hvn; omega)) (by have := HVL.out; have := HRest.out.2.1; omega) hv1 (by rw [Lib.cell_of_heap hx1]; rfl) (by rw [Lib.cell_of_heap hx1]; rfl) hOw hst hno (by omega) rfl ?_
      intro v' u hG
      obtain ⟨hP5, hS5⟩ := hP1.put (m := n) (by rw [hhd]; exact hOw) hv1 hG
      have hS6 := hS1.trans hS5
      generalize u.setCell ⟨g1, n, none⟩ v' = W5 at hP5 hS6 ⊢
      have cl := hP5.lbox.cell
      have cw : W5.cell? ⟨w.heap.size, i, none⟩ = some (.int .i64 ((lz l.length R)[i]'(by rw [lz_length]; exact hi))) ∧ W5.frozen? ⟨w.heap.size, i, none⟩ = false := row_cell hP5.lrow (by simp [icells, lz_length, hi])
      obtain ⟨cw1, cw2⟩ := cw
      have hnb : n ≤ 1048576 := by have := HRest.out.2.1; omega
      obtain ⟨hP7, hS7⟩ := hP5.write i ((n + 1 : Nat) : Int)
      have hS8 := hS6.trans hS7
      rw [Int.natCast_add, Int.natCast_one] at hP7 hS8
      clear hS7 hG hP5 hS5 hS6
      gi_wp2
      refine ⟨hS8.ko.from _, hS8.kq, _, _, _, ⟨hP7.low, hP7.lbox, ?_, hP7.abox, hP7.al, ?_, ?_, ?_⟩, hP7.ibox⟩
      · rw [HE.out]
        show World.ownsRow _ _ _ _ _ _ (icells ((lz l.length R).set i ((mxl ⟨X, Y⟩ (R.map (·.2)) (rl (R.map (·.2))) + 1 : Nat) : Int)))
        rw [HN.out, Int.natCast_add, Int.natCast_one]
        exact hP7.lrow
      · rw [HE.out]; exact HD.out.1
      · rw [HE.out]; exact HD.out.2.1
      · rw [HE.out]; exact HD.out.2.2
  case done =>
    rintro D ys W hD hys ⟨va, vals, H, hR, hb⟩ hK
    have hc := hR.lbox.cell
    gi_wp2
    refine ⟨by simp, .inl ⟨_, _, rfl, run_takeDeferred hK, ?_⟩⟩
    refine ⟨_, results_tmp rfl _ _ _, .slice (some ⟨w.heap.size, 0, none⟩) l.length l.length, rfl, ?_, hR.low.trans (belowK_b (w := w) (Nat.le_refl _) W D _ _ (by omega) hK rfl rfl)⟩
    have := ownsRow_putObj hR.lrow (Obj.deferred none) hK rfl
    rw [hys, List.reverse_reverse, lz_all] at this
    exact this
  case stop =>
    rintro D c pre W _ _ h _
    exact h.elim
end Go.Proofs.YtnlbjknfahhfaaaGreatDoor

/- The longest rising row: Longest of the code, walked. -/
set_option maxRecDepth 20000
namespace Go.Proofs.YtnlbjknfahhfaaaGreatDoor
open Go.RowKit
attribute [local simp] low_drew low_alloc

theorem owns_base {W : World} {b b' n : Nat} {e : TypeId} {s : Nat} {v : Value} {xs : List Value} (h : W.ownsRow b' e s v n xs) (hb : b ≤ b') : W.ownsRow b e s v n xs :=
  ⟨h.1, h.2.imp id (fun ⟨g, cap, cur, q1, q2, q⟩ => ⟨g, cap, cur, q1, Nat.le_trans hb q2, q⟩)⟩
theorem above_low (p q : Pr) (r : Bool) (W u : World) (hr : Hid (decide (ab p q) = r)) (hL : Low W u) :
    Calls Tryz.prog 129 #[prV p, prV q] u fun e w' => e = .returned (.bool r) ∧ Low W w' := by
  refine (above_f p q r u hr).mono ?_
  rintro e w' ⟨rfl, h⟩
  exact ⟨rfl, Below.trans hL (h.mono (Below.size hL))⟩

set_option maxRecDepth 10000 in
set_option maxHeartbeats 4000000 in
theorem Longest_f (l : List Pr) (v : Value) (w : World) (hl : HPr w v l) (hll : l.length ≤ 1048576) (L : List Pr) (hL : Hid (lng l = L)) :
    Calls Tryz.prog 101 #[v] w fun e w' => ∃ v', e = .returned v' ∧ w'.ownsRow w.heap.size 189 2 v' L.length (prcells L) ∧ Below w.heap.size w w' := by
  obtain ⟨lo, lc, rfl⟩ := Holds.form hl
  obtain ⟨R, hR⟩ : ∃ R, rl l = R := ⟨_, rfl⟩
  have hRl : R.length = l.length := by rw [← hR]; exact rl_length l
  have hLl : L.length ≤ l.length := by rw [← hL.out]; exact pick_length _ _ _ _
  have HR : Hid (R.length = l.length ∧ (∀ n ∈ R, 0 < n ∧ n ≤ l.length)) := ⟨hRl, fun n hn => by rw [← hR] at hn; exact ⟨rl_pos l n hn, rl_le l n hn⟩⟩
  have HLR : Hid (pick (mxn R) none l R = L) := (by show _ = _; rw [← hL.out, ← hR]; rfl)
  have hrf := rising_f l _ w hl hll
  rw [hR] at hrf
  clear hR hRl hL
  go_enter Tryz.func101, Tryz.ntmps101
  go_wp2_with fail
  refine hrf.mono ?_
  rintro e W1 ⟨v', rfl, hO1, hB1⟩
  have hI : HI W1 v' (R.map (fun (n : Nat) => (n : Int))) := (by
    have := holds_of hO1
    unfold HI
    rw [List.length_map, HR.out.1]
    exact this)
  obtain ⟨go, gc, rfl⟩ := (holds_of hO1).form
  clear hrf hO1
  go_wp2
  go_loopw [4, 14] (fun mv kv wr => ∃ (k m : Nat), k ≤ l.length ∧ m ≤ l.length ∧ mv = .int .i64 m ∧ kv = .int .i64 k ∧ wr = W1 ∧ Hid (max m (mxn (R.drop k)) = mxn R)) (fun _ kv _ => l.length - (intOf kv).toNat)
  case atStart => exact ⟨0, 0, Nat.zero_le _, Nat.zero_le _, rfl, rfl, rfl, by show _ = _; simp⟩
  case round =>
    obtain ⟨k, m, hk, hm, rfl, rfl, rfl, HM⟩ := hrel
    by_cases hkl : k < l.length
    · obtain ⟨b, off, rfl, hbl, hc⟩ := HI.at hI (by rw [List.length_map]; have := HR.out.1; omega)
      have hkR : k < R.length := by have := HR.out.1; omega
      have c0 := hc k (by rw [List.length_map]; exact hkR)
      rw [List.getElem_map] at c0
      obtain ⟨rk, hrk⟩ : ∃ r, R[k] = r := ⟨_, rfl⟩
      have hrb := (HR.out.2 _ (List.getElem_mem hkR)).2
      have HM2 : Hid (max (max m rk) (mxn (R.drop (k + 1))) = mxn R) := (by
        show _ = _
        have := HM.out
        rw [List.drop_eq_getElem_cons hkR, mxn, hrk] at this
        omega)
      rw [hrk] at c0 hrb
      clear hc hrk HM
      have k1 : 0 ≤ (k : Int) := by omega
      have k2 : (k : Int) < (l.length : Int) := by omega
      go_wp2
      go_roundw
      case rel => exact ⟨k + 1, max m rk, by omega, by omega, by congr 1; first | (split <;> omega) | omega, by go_num, by first | trivial | rfl, HM2⟩
      case measure => simp [intOf]; omega
    · obtain rfl : k = l.length := by omega
      have HPK : Hid (pick m none l R = L) := (by
        show _ = _
        have := HM.out
        rw [← HR.out.1, List.drop_length, mxn, Nat.max_zero] at this
        rw [← HLR.out, this])
      clear HM HLR hk
      obtain ⟨W1, rfl⟩ : ∃ W1, W1 = wr := ⟨wr, rfl⟩
      go_wp2
      go_loopw [4, 7, 24] (fun mv ov iv wi => ∃ (i m : Nat) (X : List Pr) (oo : Option Addr) (oc : Nat), i ≤ l.length ∧ m ≤ l.length ∧ mv = .int .i64 m ∧ ov = .slice oo X.length oc ∧ iv = .int .i64 i ∧ Low W1 wi ∧ X.length ≤ L.length ∧ wi.ownsRow W1.heap.size 189 2 (.slice oo X.length oc) X.length (prcells X) ∧ Hid (X ++ pick m X.getLast? (l.drop i) (R.drop i) = L)) (fun _ _ iv _ => l.length - (intOf iv).toNat)
      case atStart => exact ⟨0, m, [], none, 0, Nat.zero_le _, hm, rfl, rfl, rfl, Below.refl _ _, Nat.zero_le _, World.ownsRow_nil _ _ _ _, HPK⟩
      case round =>
        obtain ⟨i, m, X, oo, oc, hi, hm, rfl, rfl, rfl, hLow, hXl, hO, HX⟩ := hrel
        by_cases hil : i < l.length
        · have hiR : i < R.length := by have := HR.out.1; omega
          obtain ⟨p, hp⟩ : ∃ p, l[i] = p := ⟨_, rfl⟩
          obtain ⟨ri, hri⟩ : ∃ r, R[i] = r := ⟨_, rfl⟩
          have hrb := HR.out.2 _ (List.getElem_mem hiR)
          rw [hri] at hrb
          have HXP : Hid (X ++ (if ri = m ∧ (∀ q, X.getLast? = some q → ab p q) then p :: pick (m - 1) (some p) (l.drop (i + 1)) (R.drop (i + 1)) else pick m X.getLast? (l.drop (i + 1)) (R.drop (i + 1))) = L) := (by
            have := HX.out
            rw [pick_step _ _ l R i hil hiR, hp, hri] at this
            exact this)
          have hBi : Below w.heap.size w wr := hB1.trans (Below.mono hLow hB1.size)
          obtain ⟨b, off, rfl, hbl, hc⟩ := HPr.at (HPr.keep hl hBi (Nat.le_refl _)) (by omega)
          obtain ⟨c0, c1⟩ := hc i hil
          rw [hp] at c0 c1
          obtain ⟨gb, gf, rfl, hgb, hgc⟩ := HI.at (HI.keep hI hLow (Nat.le_refl _)) (by rw [List.length_map]; omega)
          have y00 := hgc i (by rw [List.length_map]; exact hiR)
          rw [List.getElem_map, hri] at y00
          obtain ⟨W2, hW2⟩ : ∃ W2, wr.alloc (Obj.cells #[.int .i64 p.X, .int .i64 p.Y] 189) = W2 := ⟨_, rfl⟩
          have hb2 : Low wr W2 := by rw [← hW2]; exact (Below.refl _ wr).alloc (Nat.le_refl _) _
          have hsz2 : W2.heap.size = wr.heap.size + 1 := by rw [← hW2]; simp
          have k2 : W2.heap[wr.heap.size]? = some (Obj.cells #[.int .i64 p.X, .int .i64 p.Y] 189 (0, 0)) := by rw [← hW2]; exact _root_.Go.heap_alloc_new wr _
          have a0 : W2.cell? ⟨wr.heap.size, 0, none⟩ = some (.int .i64 p.X) := by rw [Lib.cell_of_heap k2]; rfl
          have a1 : W2.cell? ⟨wr.heap.size, 1, none⟩ = some (.int .i64 p.Y) := by rw [Lib.cell_of_heap k2]; rfl
          have y0 := cell_keep hb2 hgb y00
          have hLow2 : Low W1 W2 := Below.trans hLow (Below.mono hb2 (Below.size hLow))
          have hO2 := owns_keep hO hb2
          have i1 : 0 ≤ (i : Int) := by omega
          have i2 : (i : Int) < (l.length : Int) := by omega
          have hs0 := Below.size hLow2
          have hLb : X.length ≤ 1048576 := by omega
          clear hc hgc hp hri HX y00 k2 hO
          by_cases hrm : ri = m
          · subst hrm
            have e1 : ((ri : Int) == (ri : Int)) = true := by simp
            by_cases hXe : X = []
            · subst hXe
              have HX2 : Hid (([] ++ [p]) ++ pick (ri - 1) (some p) (l.drop (i + 1)) (R.drop (i + 1)) = L) := (by
                show _ = _
                rw [← HXP.out, if_pos ⟨rfl, by simp⟩]
                rfl)
              have hXl2 : 1 ≤ L.length := by rw [← HX2.out]; simp
              clear HXP
              go_wp2_with fail
              go_big_quiet (fail)
              have hOd : (W2.drewN nq).ownsRow W1.heap.size 189 2 (.slice oo 0 oc) 0 [] := hO2
              have hLd : Low W1 (W2.drewN nq) := Below.dN hLow2 nq
              have c0' : (W2.drewN nq).cell? ⟨wr.heap.size, 0, none⟩ = some (.int .i64 p.X) := a0
              have c1' : (W2.drewN nq).cell? ⟨wr.heap.size, 1, none⟩ = some (.int .i64 p.Y) := a1
              generalize W2.drewN nq = wd at hOd hLd c0' c1' ⊢
              have hsd := Below.size hLd
              clear c0 c1 y0 a0 a1 hW2
              go_wp2_with (at_builtin; refine wpList_append_h _ (by kernel_rfl) (.tmp 50) (.tmp 52) 185 189 (.agg #[.int .i64 0, .int .i64 0]) 2 16 rfl Tryz.underlying185 infoPr rfl (by decide) (by decide) W1.heap.size (.slice oo 0 oc) 0 [] (by kernel_rfl) (hOd.alloc _) (.slice (some ⟨wd.heap.size, 0, none⟩) 1 1) 1 (prcells [p]) (by kernel_rfl) (new_holds wd _ _ 1 1 (by decide)) rfl (prcells_one _) (by omega) (by simp; omega) ?_)
              intro v3 w3 hown3 hgrow3
              have hB3 : Low W1 w3 := (Below.alloc hLd (Below.size hLd) _).grown hgrow3 (by simp; omega) (fun _ hj => owns_ge hOd hj)
              obtain ⟨oo3, oc3, rfl⟩ := (holds_of hown3).form
              clear hgrow3
              go_wp2
              go_roundw
              case rel => exact ⟨i + 1, ri - 1, [p], oo3, oc3, by omega, by omega, by rw [show ((ri - 1 : Nat) : Int) = (ri : Int) - 1 by omega], rfl, by go_num, hB3, by simp; omega, by simpa using hown3, HX2⟩
              case measure => simp [intOf]; omega
            · have hXp : 0 < X.length := List.length_pos_iff.2 hXe
              obtain ⟨N1, hN1⟩ : ∃ N1, X.length = N1 + 1 := ⟨X.length - 1, by omega⟩
              obtain ⟨bo, fo, rfl, hbo, hco⟩ := HPr.at (holds_of hO2) hXp
              obtain ⟨q, hq⟩ : ∃ q, X[N1] = q := ⟨_, rfl⟩
              obtain ⟨o0, o1⟩ := hco N1 (by omega)
              rw [hq] at o0 o1
              have hlast : X.getLast? = some q := by rw [List.getLast?_eq_getElem?, hN1, Nat.add_sub_cancel, List.getElem?_eq_getElem (by omega), hq]
              have HXQ : Hid (X ++ (if ab p q then p :: pick (ri - 1) (some p) (l.drop (i + 1)) (R.drop (i + 1)) else pick ri X.getLast? (l.drop (i + 1)) (R.drop (i + 1))) = L) := (by
                show _ = _
                rw [← HXP.out]
                congr 1
                by_cases hpq : ab p q
                · rw [if_pos hpq, if_pos ⟨rfl, fun q' h => by rw [hlast] at h; cases h; exact hpq⟩]
                · rw [if_neg hpq, if_neg (fun h => hpq (h.2 q hlast))])
              have HN1 : Hid (X.length = N1 + 1) := hN1
              rw [hN1] at hO2 hXl hLb ⊢
              have hcs : ∀ u : World, Low W2 u → u.cell? ⟨wr.heap.size, 0, none⟩ = some (.int .i64 p.X) ∧ u.cell? ⟨wr.heap.size, 1, none⟩ = some (.int .i64 p.Y) ∧ u.cell? ⟨bo, fo + N1 * 2, none⟩ = some (.int .i64 q.X) ∧ u.cell? ⟨bo, fo + N1 * 2 + 1, none⟩ = some (.int .i64 q.Y) ∧ u.cell? ⟨gb, gf + i, none⟩ = some (.int .i64 ri) := fun u hu => ⟨cell_keep hu (by omega) a0, cell_keep hu (by omega) a1, cell_keep hu hbo o0, cell_keep hu hbo o1, cell_keep hu (by omega) y0⟩
              have n1 : 0 ≤ (N1 : Int) := by omega
              have n2 : (N1 : Int) < (N1 : Int) + 1 := by omega
              have n3 : ((N1 : Int) + 1 == 0) = false := by simp; omega
              have n4 : IntKind.i64.wrap ((N1 : Int) + 1 - 1) = (N1 : Int) := by rw [IntKind.wrap_i64]; omega
              have n5 : IntKind.i64.wrap (N1 : Int) = (N1 : Int) := by rw [IntKind.wrap_i64]; omega
              have n6 : (N1 : Int) + 1 - 1 = (N1 : Int) := by omega
              have n7 : (N1 : Int) < ((N1 + 1 : Nat) : Int) := by omega
              have hLw : Low W2 W2 := Below.refl _ _
              clear HXP hXe hXp hN1 hco hq hlast
              by_cases hab : ab p q
              · have HAB : Hid (decide (ab p q) = true) := decide_eq_true hab
                have HX2 : Hid ((X ++ [p]) ++ pick (ri - 1) (some p) (l.drop (i + 1)) (R.drop (i + 1)) = L) := (by
                  show _ = _
                  rw [← HXQ.out, if_pos hab]
                  simp)
                have hXl2 : N1 + 1 + 1 ≤ L.length := by rw [← HX2.out, ← HN1.out]; simp
                clear HXQ hab
                go_wp2_with fail
                go_region_held3 (fun w' => w'.cell? ⟨wr.heap.size, 0, none⟩ = some (.int .i64 p.X) ∧ w'.cell? ⟨wr.heap.size, 1, none⟩ = some (.int .i64 p.Y) ∧ w'.cell? ⟨bo, fo + N1 * 2, none⟩ = some (.int .i64 q.X) ∧ w'.cell? ⟨bo, fo + N1 * 2 + 1, none⟩ = some (.int .i64 q.Y) ∧ w'.cell? ⟨gb, gf + i, none⟩ = some (.int .i64 ri) ∧ Low W2 w') (go_keep)
                  (first | (go_at_call 129; refine (above_low p q true W2 _ HAB (by first | assumption | (simp [*]; done))).mono ?_; rintro e wd ⟨rfl, hlow⟩; obtain ⟨g0, g1, g2, g3, g4⟩ := hcs wd hlow))
                have hOd : wd.ownsRow W1.heap.size 189 2 (.slice (some ⟨bo, fo, none⟩) (N1 + 1) oc) (N1 + 1) (prcells X) := owns_keep hO2 hlow
                have hLd : Low W1 wd := Below.trans hLow2 (Below.mono hlow (Below.size hLow2))
                have hsd := Below.size hLd
                clear c0 c1 o0 o1 y0 a0 a1 hcs g2 g3 g4 n1 n2 n3 n4 n5 n6 n7 hW2
                go_wp2_with (at_builtin; refine wpList_append_h _ (by kernel_rfl) (.tmp 50) (.tmp 52) 185 189 (.agg #[.int .i64 0, .int .i64 0]) 2 16 rfl Tryz.underlying185 infoPr rfl (by decide) (by decide) W1.heap.size (.slice (some ⟨bo, fo, none⟩) (N1 + 1) oc) (N1 + 1) (prcells X) (by kernel_rfl) (hOd.alloc _) (.slice (some ⟨wd.heap.size, 0, none⟩) 1 1) 1 (prcells [p]) (by kernel_rfl) (new_holds wd _ _ 1 1 (by decide)) rfl (prcells_one _) (by omega) (by simp; omega) ?_)
                intro v3 w3 hown3 hgrow3
                have hB3 : Low W1 w3 := (Below.alloc hLd (Below.size hLd) _).grown hgrow3 (by simp; omega) (fun _ hj => owns_ge hOd hj)
                rw [← prcells_append] at hown3
                obtain ⟨oo3, oc3, rfl⟩ := (holds_of hown3).form
                clear hgrow3
                go_wp2
                go_roundw
                case rel => exact ⟨i + 1, ri - 1, X ++ [p], oo3, oc3, by omega, by omega, by rw [show ((ri - 1 : Nat) : Int) = (ri : Int) - 1 by omega], by rw [List.length_append, HN1.out]; rfl, by go_num, hB3, by rw [List.length_append, HN1.out]; simp; omega, by rw [List.length_append, HN1.out]; exact hown3, by rw [List.getLast?_concat]; exact HX2⟩
                case measure => simp [intOf]; omega
              · have HAB : Hid (decide (ab p q) = false) := decide_eq_false hab
                have HX2 : Hid (X ++ pick ri X.getLast? (l.drop (i + 1)) (R.drop (i + 1)) = L) := (by
                  show _ = _
                  rw [← HXQ.out, if_neg hab])
                clear HXQ hab
                go_wp2_with fail
                go_region_held3 (fun w' => w'.cell? ⟨wr.heap.size, 0, none⟩ = some (.int .i64 p.X) ∧ w'.cell? ⟨wr.heap.size, 1, none⟩ = some (.int .i64 p.Y) ∧ w'.cell? ⟨bo, fo + N1 * 2, none⟩ = some (.int .i64 q.X) ∧ w'.cell? ⟨bo, fo + N1 * 2 + 1, none⟩ = some (.int .i64 q.Y) ∧ w'.cell? ⟨gb, gf + i, none⟩ = some (.int .i64 ri) ∧ Low W2 w') (go_keep)
                  (first | (go_at_call 129; refine (above_low p q false W2 _ HAB (by first | assumption | (simp [*]; done))).mono ?_; rintro e wd ⟨rfl, hlow⟩; obtain ⟨g0, g1, g2, g3, g4⟩ := hcs wd hlow))
                have hOd : wd.ownsRow W1.heap.size 189 2 (.slice (some ⟨bo, fo, none⟩) (N1 + 1) oc) (N1 + 1) (prcells X) := owns_keep hO2 hlow
                have hLd : Low W1 wd := Below.trans hLow2 (Below.mono hlow (Below.size hLow2))
                clear c0 c1 o0 o1 y0 a0 a1 hcs g0 g1 g2 g3 g4 hW2
                go_wp2
                go_roundw
                case rel => exact ⟨i + 1, ri, X, _, _, by omega, hm, rfl, by rw [HN1.out], by go_num, hLd, by rw [HN1.out]; exact hXl, by rw [HN1.out]; exact hOd, HX2⟩
                case measure => simp [intOf]; omega
          · have e1 : ((ri : Int) == (m : Int)) = false := by simp; omega
            have HX2 : Hid (X ++ pick m X.getLast? (l.drop (i + 1)) (R.drop (i + 1)) = L) := (by
              show _ = _
              rw [← HXP.out, if_neg (fun h => hrm h.1)])
            clear HXP
            go_wp2_with fail
            go_big_quiet (fail)
            go_wp2
            go_roundw
            case rel => exact ⟨i + 1, m, X, oo, oc, by omega, hm, rfl, rfl, by go_num, Below.dN hLow2 _, hXl, hO2, HX2⟩
            case measure => simp [intOf]; omega
        · have e : X = L := by
            have := HX.out
            rw [show l.drop i = [] by rw [List.drop_eq_nil_iff]; omega] at this
            simpa [pick] using this
          subst e
          go_wp2
          go_ret
          exact ⟨_, rfl, owns_base hO hB1.size, hB1.trans (Below.mono hLow hB1.size)⟩
end Go.Proofs.YtnlbjknfahhfaaaGreatDoor

/- Where each class of a text stands: places, walked. -/
set_option maxRecDepth 20000
namespace Go.Proofs.YtnlbjknfahhfaaaGreatDoor
open Go.RowKit Go.Maps

theorem tm_snoc (c a : Int) (t : List Int) : tm c (t ++ [a]) = tm c t + if a = c then 1 else 0 := by
  induction t with
  | nil => simp [tm]
  | cons b t ih => rw [List.cons_append, tm, tm, ih]; omega
theorem tm_zero {c : Int} {t : List Int} : tm c t = 0 ↔ c ∉ t := by
  induction t with
  | nil => simp [tm]
  | cons b t ih =>
    rw [tm, List.mem_cons]
    by_cases h : b = c
    · simp [h]
    · rw [if_neg h, Nat.zero_add, ih]
      constructor
      · rintro h1 (h2 | h2)
        · exact h h2.symm
        · exact h1 h2
      · exact fun h1 h2 => h1 (.inr h2)
theorem ps_none {c i j : Int} {t : List Int} (h : tm c t = 0) : ps c i j t = [] := List.eq_nil_of_length_eq_zero (by rw [ps_length, h])
theorem ps_one {c i j : Int} {t : List Int} (h : tm c t = 1) : ps c i j t = [⟨i, j + (t.idxOf c : Nat)⟩] := by
  induction t generalizing j with
  | nil => simp [tm] at h
  | cons b t ih =>
    rw [tm] at h
    rw [ps]
    by_cases e : b = c
    · rw [if_pos e] at h ⊢
      rw [ps_none (by omega), e, List.idxOf_cons_self]
      simp
    · rw [if_neg e] at h ⊢
      have eb : (b == c) = false := by simpa using e
      rw [ih (by omega), List.idxOf_cons, eb]
      simp
      omega
theorem tm_pos {x : List Int} {i : Nat} (hi : i < x.length) : 0 < tm x[i] x := by
  rcases Nat.eq_zero_or_pos (tm x[i] x) with h | h
  · exact absurd (List.getElem_mem hi) (tm_zero.1 h)
  · exact h
theorem tm_two {c : Int} {t : List Int} {i j : Nat} (hij : i < j) (hj : j < t.length) (h1 : t[i] = c) (h2 : t[j] = c) : 2 ≤ tm c t := by
  induction t generalizing i j with
  | nil => simp at hj
  | cons b t ih =>
    rw [tm]
    cases j with
    | zero => omega
    | succ j =>
      cases i with
      | zero =>
        have h3 : t[j]'(by simpa using hj) = c := by simpa using h2
        have := tm_pos (x := t) (i := j) (by simpa using hj)
        rw [h3] at this
        rw [if_pos (by simpa using h1)]
        omega
      | succ i =>
        have := ih (i := i) (j := j) (by omega) (by simpa using hj) (by simpa using h1) (by simpa using h2)
        omega
theorem idx_one {x : List Int} {i : Nat} (hi : i < x.length) (h : tm x[i] x = 1) : x.idxOf x[i] = i := by
  have hk : x.idxOf x[i] < x.length := List.idxOf_lt_length_of_mem (List.getElem_mem hi)
  have hv : x[x.idxOf x[i]] = x[i] := List.getElem_idxOf hk
  rcases Nat.lt_trichotomy (x.idxOf x[i]) i with q | q | q
  · have := tm_two q hi hv rfl
    omega
  · exact q
  · have := tm_two q hk rfl hv
    omega

/-- where a class stands: nowhere, at a place, at several -/
def pf (t : List Int) (c : Int) : Option Int := if tm c t = 0 then none else if tm c t = 1 then some (t.idxOf c : Nat) else some (-1)
theorem pf_snoc (t : List Int) (a c : Int) : pf (t ++ [a]) c = if a = c then some (if (pf t a).isSome then -1 else (t.length : Int)) else pf t c := by
  unfold pf
  rw [tm_snoc]
  by_cases e : a = c
  · subst e
    rw [if_pos rfl, if_pos rfl, if_neg (by omega)]
    by_cases h0 : tm a t = 0
    · rw [if_pos (by omega), if_pos h0, List.idxOf_append, if_neg (tm_zero.1 h0)]
      simp
    · rw [if_neg (by omega), if_neg h0]
      split <;> simp
  · rw [if_neg e, if_neg e, Nat.add_zero]
    by_cases h0 : tm c t = 0
    · rw [if_pos h0, if_pos h0]
    · have hm : c ∈ t := by
        by_cases q : c ∈ t
        · exact q
        · exact absurd (tm_zero.2 q) h0
      rw [if_neg h0, if_neg h0, List.idxOf_append, if_pos hm]
/-- a map that tells where each class stands -/
structure Plc {H : Type} (D : DataW H) (t : List Int) : Prop where
  tidy : Tidy D
  has : ∀ c, Maps.has D (.int .i64 c) = (pf t c).isSome
  at_ : ∀ c, D.atKey (.int .i64 c) (.lit (.int .i64 0)) = .lit (.int .i64 ((pf t c).getD 0))
theorem Plc.nil {H : Type} : Plc (H := H) (.map []) [] := ⟨tidy_empty, fun _ => rfl, fun _ => by rw [atKey_of_not_has rfl]; rfl⟩
theorem Plc.put {H : Type} {D : DataW H} {t : List Int} (h : Plc D t) (a : Int) : Plc (D.put (.int .i64 a) (.lit (.int .i64 (if (pf t a).isSome then -1 else (t.length : Int))))) (t ++ [a]) := by
  have hk : WideAt.IsKeyLit (.int .i64 a) := trivial
  have hne : ∀ {g : Int}, a ≠ g → (Lit.int .i64 g) ≠ .int .i64 a := fun hg e => hg (by cases e; rfl)
  refine ⟨h.tidy.put hk _, fun c => ?_, fun c => ?_⟩
  · rw [pf_snoc]
    by_cases e : a = c
    · subst e
      rw [has_put_same h.tidy.isMap hk, if_pos rfl]; rfl
    · rw [has_put_other (hne e), h.has, if_neg e]
  · rw [pf_snoc]
    by_cases e : a = c
    · subst e
      rw [atKey_put_same h.tidy.isMap hk, if_pos rfl]; rfl
    · rw [atKey_put_other (hne e), h.at_, if_neg e]
theorem intKeyed : Keyed Tryz.prog 3 := int_keyed Tryz.underlying3
theorem zeroI2 (w : World) : (zeroValue 3).run Tryz.prog w = .ok (.int .i64 0) w := by kernel_rfl
/-- such a map in memory -/
def Mo (t : List Int) (B : Nat) (w : World) : Prop := ∃ D : DataW Unit, w.ownsMap Tryz.prog 3 (plainElem Tryz.prog 3) B t.length D ∧ Plc D t
section
variable {t : List Int} {B : Nat} {w w' : World}
theorem Mo.lt (h : Mo t B w) : B < w.heap.size := by obtain ⟨D, hm, _⟩ := h; exact hm.lt
theorem Mo.keep (h : Mo t B w) (hb : w'.heap[B]? = w.heap[B]?) : Mo t B w' := by
  obtain ⟨D, ⟨es, clock, hm, r⟩, hd⟩ := h
  exact ⟨D, ⟨es, clock, hb.trans hm, r⟩, hd⟩
theorem key_int {c : Int} (hc : w64 c) : keyOf Tryz.prog 3 (.int .i64 c) = some (.int .i64 c) := keyOf_int_mk Tryz.underlying3 (WalkArith.wf_i64 hc)
theorem Mo.look (h : Mo t B w) {c : Int} (hc : w64 c) : (Instr.lookup 218 (.map (some B)) (.int .i64 c) true).run Tryz.prog w = .ok (.tuple #[.int .i64 ((pf t c).getD 0), .bool (pf t c).isSome]) w := by
  obtain ⟨D, hm, hd⟩ := h
  obtain ⟨v, ps, hr, hv⟩ := hm.look_ok intKeyed Tryz.underlying218 (zeroI2 w) (plainElem_int Tryz.underlying3 (by decide)) (key_int hc)
  obtain ⟨d, rfl, hc', _⟩ := plainElem_int_inv Tryz.underlying3 hv
  have e := congrArg Prod.fst hc'
  dsimp only at e
  rw [hd.at_] at e
  cases e
  rw [hr, hd.has]
theorem Mo.look1 (h : Mo t B w) {c : Int} (hc : w64 c) : (Instr.lookup 218 (.map (some B)) (.int .i64 c) false).run Tryz.prog w = .ok (.int .i64 ((pf t c).getD 0)) w := by
  obtain ⟨D, hm, hd⟩ := h
  obtain ⟨d, hr, e, _⟩ := hm.lookup_int intKeyed Tryz.underlying218 Tryz.underlying3 (zeroI2 w) (key_int hc)
  rw [hd.at_] at e
  cases e
  exact hr
theorem Mo.store (h : Mo t B w) {a : Int} (ha : w64 a) (hl : t.length ≤ 1099511627776) (z : Int) (hz : z = if (pf t a).isSome then -1 else (t.length : Int)) :
    ∃ w', (Instr.mapUpdate 218 (.map (some B)) (.int .i64 a) (.int .i64 z)).run Tryz.prog w = .ok () w' ∧ Mo (t ++ [a]) B w' ∧ w.grownBy w' (some B) := by
  obtain ⟨D, hm, hd⟩ := h
  obtain ⟨w', hr, ho, ht⟩ := hm.store (val := .int .i64 z) intKeyed Tryz.underlying218 (by unfold maxLen; omega) (key_int ha) (plainElem_int Tryz.underlying3 (WalkArith.wf_i64 (by subst hz; split <;> omega)))
  exact ⟨w', hr, ⟨_, by simpa using ho, by subst hz; exact hd.put a⟩, ht.grown⟩
end

set_option maxRecDepth 10000 in
set_option maxHeartbeats 1000000 in
theorem places_f (x : List Int) (v : Value) (w : World) (hx : HI w v x) (hxl : x.length ≤ 1048576) (hw : ∀ c ∈ x, w64 c) :
    Calls Tryz.prog 130 #[v] w fun e w' => ∃ B, e = .returned (.map (some B)) ∧ Mo x B w' ∧ w.heap.size ≤ B ∧ Below w.heap.size w w' := by
  obtain ⟨xo, xc, rfl⟩ := Holds.form hx
  have hmm := @run_makeMap Tryz.prog
  have HW : Hid (∀ c ∈ x, w64 c) := hw
  clear hw
  go_enter Tryz.func130, Tryz.ntmps130
  go_wp2
  go_loopw [11] (fun iv wr => ∃ (i : Nat), i ≤ x.length ∧ iv = .int .i64 i ∧ Mo (x.take i) w.heap.size wr ∧ Below w.heap.size w wr) (fun iv _ => x.length - (intOf iv).toNat)
  case atStart => exact ⟨0, Nat.zero_le _, rfl, ⟨.map [], World.ownsMap_made w _ _ _, Plc.nil⟩, (Below.refl _ w).alloc (Nat.le_refl _) _⟩
  case round =>
    clear hmm
    obtain ⟨i, hi, rfl, hM, hB⟩ := hrel
    have hs := hB.size
    by_cases hil : i < x.length
    · obtain ⟨b, off, rfl, _, hc⟩ := HI.at (HI.keep hx hB (Nat.le_refl _)) (by omega)
      have c0 := hc i hil
      obtain ⟨z, hz⟩ : ∃ z, x[i] = z := ⟨_, rfl⟩
      rw [hz] at c0
      have hzw : w64 z := by rw [← hz]; exact HW.out _ (List.getElem_mem hil)
      have htl : (x.take i).length = i := by simp; omega
      have HT : Hid (x.take (i + 1) = x.take i ++ [z]) := (by show _ = _; rw [List.take_succ_eq_append_getElem hil, hz])
      have hlk := hM.look hzw
      clear hc hz
      have i1 : 0 ≤ (i : Int) := by omega
      have i2 : (i : Int) < (x.length : Int) := by omega
      cases hp : pf (x.take i) z with
      | none =>
        obtain ⟨w2, hst, hM2, hg2⟩ := hM.store hzw (by omega) (i : Int) (by rw [hp, htl]; rfl)
        have hB2 : Below w.heap.size w w2 := hB.grown hg2 hs (fun j hj => by cases hj; exact Nat.le_refl _)
        rw [hp] at hlk
        simp only [Option.getD_none, Option.isSome_none] at hlk
        go_wp2
        go_roundw
        case rel => exact ⟨i + 1, by omega, by go_num, by rw [HT.out]; exact hM2, hB2⟩
        case measure => simp [intOf]; omega
      | some q =>
        obtain ⟨w2, hst, hM2, hg2⟩ := hM.store hzw (by omega) (-1) (by rw [hp]; rfl)
        have hB2 : Below w.heap.size w w2 := hB.grown hg2 hs (fun j hj => by cases hj; exact Nat.le_refl _)
        rw [hp] at hlk
        simp only [Option.getD_some, Option.isSome_some] at hlk
        go_wp2
        go_roundw
        case rel => exact ⟨i + 1, by omega, by go_num, by rw [HT.out]; exact hM2, hB2⟩
        case measure => simp [intOf]; omega
    · obtain rfl : i = x.length := by omega
      rw [List.take_length] at hM
      go_wp2
      go_ret
      exact ⟨_, rfl, hM, Nat.le_refl _, hB⟩
end Go.Proofs.YtnlbjknfahhfaaaGreatDoor

/- The lines that are there once in each text: Unique of the code, walked. -/
set_option maxRecDepth 20000
namespace Go.Proofs.YtnlbjknfahhfaaaGreatDoor
open Go.RowKit Go.Maps

/-- what one place adds -/
theorem uq_at (x y : List Int) (i : Nat) (hi : i < x.length) : (if tm x[i] x = 1 ∧ tm x[i] y = 1 then ps x[i] i 0 y else []) = match pf y x[i] with
    | none => []
    | some j => if j ≠ -1 ∧ (pf x x[i]).getD 0 = (i : Int) then [⟨i, j⟩] else [] := by
  have h0 := tm_pos hi
  have hx : (pf x x[i]).getD 0 = (i : Int) ↔ tm x[i] x = 1 := by
    unfold pf
    rw [if_neg (by omega)]
    by_cases h1 : tm x[i] x = 1
    · rw [if_pos h1]
      simp [h1, idx_one hi h1]
    · rw [if_neg h1]
      simp [h1]
  simp only [hx]
  unfold pf
  by_cases h1 : tm x[i] y = 0
  · rw [if_pos h1, if_neg (by omega)]
  · rw [if_neg h1]
    by_cases h2 : tm x[i] y = 1
    · rw [if_pos h2]
      dsimp only
      by_cases h3 : tm x[i] x = 1
      · rw [if_pos ⟨h3, h2⟩, if_pos ⟨by omega, h3⟩, ps_one h2]
        simp
      · rw [if_neg (fun h => h3 h.1), if_neg (fun h => h3 h.2)]
    · rw [if_neg h2, if_neg (fun h => h2 h.2)]
      simp

set_option maxRecDepth 10000 in
set_option maxHeartbeats 4000000 in
theorem Unique_f (x y : List Int) (vx vy : Value) (w : World) (hx : HI w vx x) (hy : HI w vy y) (hxl : x.length ≤ 1048576) (hyl : y.length ≤ 1048576) (hwx : ∀ c ∈ x, w64 c) (hwy : ∀ c ∈ y, w64 c) (L : List Pr) (hL : Hid (unq x y = L)) :
    Calls Tryz.prog 102 #[vx, vy] w fun e w' => ∃ v', e = .returned v' ∧ HPr w' v' L ∧ Below w.heap.size w w' := by
  obtain ⟨xo, xc, rfl⟩ := Holds.form hx
  obtain ⟨yo, yc, rfl⟩ := Holds.form hy
  have hLl : L.length ≤ 1048576 := by rw [← hL.out]; exact Nat.le_trans (uq_length x y 0 x) hxl
  have HWX : Hid (∀ c ∈ x, w64 c) := hwx
  have HWY : Hid (∀ c ∈ y, w64 c) := hwy
  clear hwx hwy
  go_enter Tryz.func102, Tryz.ntmps102
  go_wp2_with fail
  refine (places_f x _ w hx hxl HWX.out).mono ?_
  rintro e w1 ⟨Bx, rfl, hMx, hbx, hB1⟩
  go_wp2_with fail
  refine (places_f y _ w1 (HI.keep hy hB1 (Nat.le_refl _)) hyl HWY.out).mono ?_
  rintro e W1 ⟨By, rfl, hMy, hby, hB2⟩
  have hMx2 : Mo x Bx W1 := hMx.keep (hB2.block Bx hMx.lt)
  have hBW : Below w.heap.size w W1 := hB1.trans (Below.mono hB2 hB1.size)
  have hsW := hBW.size
  clear hMx hB1 hB2
  go_wp2
  go_loopw [7, 18] (fun lv iv wr => ∃ (i : Nat) (Z : List Pr) (zo : Option Addr) (zc : Nat), i ≤ x.length ∧ iv = .int .i64 i ∧ lv = .slice zo Z.length zc ∧ Z.length ≤ L.length ∧ wr.ownsRow W1.heap.size 189 2 (.slice zo Z.length zc) Z.length (prcells Z) ∧ Low W1 wr ∧ Hid (Z ++ uq x y i (x.drop i) = L)) (fun _ iv _ => x.length - (intOf iv).toNat)
  case atStart => exact ⟨0, [], none, 0, Nat.zero_le _, rfl, rfl, Nat.zero_le _, World.ownsRow_nil _ _ _ _, Below.refl _ _, hL⟩
  case round =>
    obtain ⟨i, Z, zo, zc, hi, rfl, rfl, hZl, hO, hLow, HZ⟩ := hrel
    have hs := Below.size hLow
    by_cases hil : i < x.length
    · have hBr : Below w.heap.size w wr := hBW.trans (Below.mono hLow hsW)
      obtain ⟨b, off, rfl, _, hc⟩ := HI.at (HI.keep hx hBr (Nat.le_refl _)) (by omega)
      have c0 := hc i hil
      have hua := uq_at x y i hil
      obtain ⟨z, hz⟩ : ∃ z, x[i] = z := ⟨_, rfl⟩
      rw [hz] at c0 hua
      have hzw : w64 z := by rw [← hz]; exact HWX.out _ (List.getElem_mem hil)
      have HZ2 : Hid (Z ++ ((match pf y z with
        | none => []
        | some j => if j ≠ -1 ∧ (pf x z).getD 0 = (i : Int) then [⟨i, j⟩] else []) ++ uq x y (i + 1) (x.drop (i + 1))) = L) := (by
        show _ = _
        have := HZ.out
        rw [List.drop_eq_getElem_cons hil, uq, hz] at this
        rw [← hua]
        exact this)
      have hlk := (hMy.keep (Below.block hLow By hMy.lt)).look hzw
      have hlk1 := (hMx2.keep (Below.block hLow Bx hMx2.lt)).look1 hzw
      obtain ⟨px, hpx⟩ : ∃ p, (pf x z).getD 0 = p := ⟨_, rfl⟩
      rw [hpx] at HZ2 hlk1
      clear hc hz HZ hua hpx
      have i1 : 0 ≤ (i : Int) := by omega
      have i2 : (i : Int) < (x.length : Int) := by omega
      cases hp : pf y z with
      | none =>
        rw [hp] at hlk HZ2
        simp only [Option.getD_none, Option.isSome_none] at hlk
        have HZ3 : Hid (Z ++ uq x y (i + 1) (x.drop (i + 1)) = L) := HZ2
        clear HZ2 hp
        go_wp2
        go_roundw
        case rel => exact ⟨i + 1, Z, zo, zc, by omega, by go_num, rfl, hZl, hO, hLow, by simpa using HZ3⟩
        case measure => simp [intOf]; omega
      | some j =>
        rw [hp] at hlk HZ2
        simp only [Option.getD_some, Option.isSome_some] at hlk
        dsimp only at HZ2
        clear hp
        by_cases hj : j = -1
        · have e1 : (j != -1) = false := by simp [hj]
          have HZ3 : Hid (Z ++ uq x y (i + 1) (x.drop (i + 1)) = L) := (by
            show _ = _
            have := HZ2.out
            rw [if_neg (fun h => h.1 hj)] at this
            exact this)
          clear HZ2 hj
          go_wp2
          go_roundw
          case rel => exact ⟨i + 1, Z, zo, zc, by omega, by go_num, rfl, hZl, hO, hLow, by simpa using HZ3⟩
          case measure => simp [intOf]; omega
        · have e1 : (j != -1) = true := by simp [hj]
          by_cases hpi : px = (i : Int)
          · have e2 : (px == (i : Int)) = true := by simp [hpi]
            have HZ3 : Hid ((Z ++ [⟨i, j⟩]) ++ uq x y (i + 1) (x.drop (i + 1)) = L) := (by
              show _ = _
              have := HZ2.out
              rw [if_pos ⟨hj, hpi⟩] at this
              simpa using this)
            have hZl2 : Z.length + 1 ≤ L.length := by rw [← HZ3.out]; simp
            clear HZ2 hj hpi
            go_wp2_with (at_builtin; refine wpList_append_h _ (by kernel_rfl) (.tmp 41) (.tmp 45) 185 189 (.agg #[.int .i64 0, .int .i64 0]) 2 16 rfl Tryz.underlying185 infoPr rfl (by decide) (by decide) W1.heap.size (.slice zo Z.length zc) Z.length (prcells Z) (by kernel_rfl) (hO.alloc _) (.slice (some ⟨wr.heap.size, 0, none⟩) 1 1) 1 (prcells [⟨i, j⟩]) (by kernel_rfl) (new_holds wr _ _ 1 1 (by decide)) rfl (prcells_one _) (by omega) (by simp; omega) ?_)
            intro v3 w3 hown3 hgrow3
            have hB3 : Low W1 w3 := (Below.alloc hLow (Below.size hLow) _).grown hgrow3 (by simp; omega) (fun _ hj => owns_ge hO hj)
            rw [← prcells_append] at hown3
            obtain ⟨oo3, oc3, rfl⟩ := (holds_of hown3).form
            clear hgrow3
            go_wp2
            go_roundw
            case rel => exact ⟨i + 1, Z ++ [⟨i, j⟩], oo3, oc3, by omega, by go_num, by simp, by simp; omega, by simpa using hown3, hB3, by simpa using HZ3⟩
            case measure => simp [intOf]; omega
          · have e2 : (px == (i : Int)) = false := by simp [hpi]
            have HZ3 : Hid (Z ++ uq x y (i + 1) (x.drop (i + 1)) = L) := (by
              show _ = _
              have := HZ2.out
              rw [if_neg (fun h => hpi h.2)] at this
              exact this)
            clear HZ2 hj
            go_wp2
            go_roundw
            case rel => exact ⟨i + 1, Z, zo, zc, by omega, by go_num, rfl, hZl, hO, hLow, by simpa using HZ3⟩
            case measure => simp [intOf]; omega
    · obtain rfl : i = x.length := by omega
      have : Z = L := by
        have := HZ.out
        rw [List.drop_length] at this
        simpa [uq] using this
      subst this
      go_wp2
      go_ret
      exact ⟨_, rfl, holds_of hO, hBW.trans (Below.mono hLow hsW)⟩
end Go.Proofs.YtnlbjknfahhfaaaGreatDoor

/- patience.Diff's closure find, walked, by induction on how long a piece may be. -/
set_option maxRecDepth 20000
namespace Go.Proofs.YtnlbjknfahhfaaaGreatDoor
open Go.RowKit
attribute [local simp] low_drew

theorem unq_length' (x y : List Int) : (unq x y).length ≤ x.length := uq_length x y 0 x
/-- a pair in a box -/
def Bx2 (u : World) (B : Nat) (p q : Nat) : Prop := u.heap[B]? = some (.cells #[.int .i64 (p : Int), .int .i64 (q : Int)] 189 (0, 0))
section
variable {u u' : World} {B p q : Nat}
theorem Bx2.cells (h : Bx2 u B p q) : u.cell? ⟨B, 0, none⟩ = some (.int .i64 (p : Int)) ∧ u.cell? ⟨B, 1, none⟩ = some (.int .i64 (q : Int)) := by
  refine ⟨?_, ?_⟩ <;> rw [Lib.cell_of_heap h] <;> rfl
theorem Bx2.frozen (h : Bx2 u B p q) (j : Nat) : u.frozen? ⟨B, j, none⟩ = false := by
  unfold World.frozen?
  rw [h]
  rfl
theorem Bx2.lt (h : Bx2 u B p q) : B < u.heap.size := (Array.getElem?_eq_some_iff.1 h).1
theorem Bx2.keep (h : Bx2 u B p q) {r : Option Nat} (hg : u.grownBy u' r) (hr : some B ≠ r) : Bx2 u' B p q := (hg.block B h.lt hr).trans h
theorem Bx2.low (h : Bx2 u B p q) (hg : Below u.heap.size u u') : Bx2 u' B p q := (hg.block B h.lt).trans h
theorem Bx2.new (w : World) (p q : Nat) : Bx2 (w.alloc (.cells #[.int .i64 (p : Int), .int .i64 (q : Int)] 189)) w.heap.size p q := _root_.Go.heap_alloc_new w _
theorem Bx2.put (h : Bx2 u B p q) (p' q' : Nat) : Bx2 ((u.setCell ⟨B, 0, none⟩ (.int .i64 (p' : Int))).setCell ⟨B, 1, none⟩ (.int .i64 (q' : Int))) B p' q' :=
  heap_setCell_same _ B 1 _ _ _ (heap_setCell_same u B 0 _ _ _ h)
end

theorem load_fn {u : World} {a : Addr} {n : Nat} {c : Array Value} (h : u.cell? a = some (.func (.func n) #[] c)) {op : Oper} (x : Operand) (ho : op.op = .load 181 x) {ev : Operand → Value} (hx : ev x = .pointer (some a)) :
    (execOp ev op).run Tryz.prog u = .ok (.value (.func (.func n) #[] c)) u := by
  simp only [execOp, ho, hx]
  go_simp
theorem cell_below {u u' : World} (h : Below u.heap.size u u') {a : Addr} {v : Value} (hc : u.cell? a = some v) : u'.cell? a = some v := cell_low h hc

set_option maxRecDepth 10000 in
set_option maxHeartbeats 8000000 in
theorem find_f (x y : List Int) (W0 : World) (g Bf : Nat) (hf0 : W0.cell? ⟨Bf, 0, none⟩ = some (.func (.func 98) #[] #[.pointer (some ⟨Bf, 0, none⟩)])) (hxl : x.length ≤ 4096) (hyl : y.length ≤ 4096) (hwx : ∀ c ∈ x, w64 c) (hwy : ∀ c ∈ y, w64 c) (f : Nat) : ∀ (w : World) (K : List Int) (_ : Ls W0 g x.length K w) (a b c d : Nat) (xo : Option Addr) (nx xc : Nat) (yo : Option Addr) (ny yc : Nat) (ko : Option Addr) (kc : Nat) (_ : Pz W0 g x y a b c d xo nx xc yo ny yc ko kc) (_ : b - a < f) (KF : List Int) (_ : Hid (wrk K (pcs (pmid x y) x y f a b c d) = KF)),
    Calls Tryz.prog 98 #[.agg #[.slice xo nx xc, .slice yo ny yc, .int .i64 (c : Int), .slice ko nx kc], .pointer (some ⟨Bf, 0, none⟩)] w fun e w' => e = .returned (.tuple #[]) ∧ Ls W0 g x.length KF w' ∧ w.grownBy w' (some g) := by
  induction f with
  | zero => intro w K hS a b c d xo nx xc yo ny yc ko kc hp hf; omega
  | succ f ih =>
    intro w K hS a b c d xo nx xc yo ny yc ko kc hp hf KF hKF
    have hg := hS.lt
    have HKF : Hid (∀ k m, k = tf x y a b c d → m = tb x y (a + k) b (c + k) d → wrk (wrk K (fp a c k ++ bp b d m)) (if a + k < b - m ∧ c + k < d - m then pmid x y (pcs (pmid x y) x y f) (a + k) (b - m) (c + k) (d - m) else []) = KF) := (by
      intro k m hk hm
      rw [← hKF.out, pcs, ends, ← hk, ← hm, wrk_append, wrk_append, wrk_append])
    have hQ0 := Qbx.new w (.slice xo nx xc) (.slice yo ny yc) (.int .i64 c) (.slice ko nx kc)
    have hB0 := (Below.refl w.heap.size w).alloc (Nat.le_refl _) (.cells #[.slice xo nx xc, .slice yo ny yc, .int .i64 c, .slice ko nx kc] 183)
    clear hKF
    go_enter Tryz.func98, Tryz.ntmps98
    go_wp2_with fail
    refine (KeepEnds_f x y W0 _ g K a b c d xo nx xc yo ny yc ko kc hp hxl hyl (hS.keep hB0)).mono ?_
    rintro e w1 ⟨k, m, xo1, nx1, xc1, yo1, ny1, yc1, ko1, kc1, hk, hm, rfl, hp1, hS1, hG1⟩
    have HK2 := HKF.out k m hk hm
    have hkl := tf_le x y a b c d
    have hml := tb_le x y (a + k) b (c + k) d
    rw [← hk] at hkl
    rw [← hm] at hml
    have hQ1 := hQ0.keep hG1 (by simp; omega)
    have hG1' : w.grownBy w1 (some g) := (low_grown hB0 _).trans hG1
    have hb0 := hp.eb
    have hf' := hp.bx
    clear hk hm HKF hS hB0 hQ0 hG1 hp
    obtain ⟨A, hA⟩ : ∃ A, a + k = A := ⟨_, rfl⟩
    obtain ⟨C, hC⟩ : ∃ C, c + k = C := ⟨_, rfl⟩
    obtain ⟨b1, hb1⟩ : ∃ B, b - m = B := ⟨_, rfl⟩
    obtain ⟨d1, hd1⟩ : ∃ D, d - m = D := ⟨_, rfl⟩
    obtain ⟨K1, hK1⟩ : ∃ K1, wrk K (fp a c k ++ bp b d m) = K1 := ⟨_, rfl⟩
    rw [hK1] at hS1 HK2
    rw [hA, hC, hb1, hd1] at HK2 hp1
    rw [hC]
    have HK3 : Hid (wrk K1 (if A < b1 ∧ C < d1 then pmid x y (pcs (pmid x y) x y f) A b1 C d1 else []) = KF) := HK2
    have hf1 : b1 - A ≤ f := by omega
    clear hA hC hb1 hd1 hK1 hkl hml hf HK2 hb0 hf'
    obtain ⟨c0, c1, c2, c3⟩ := hQ1.cells
    have f0 := hQ1.frozen
    have hQ2 := hQ1.put (.slice xo1 nx1 xc1) (.slice yo1 ny1 yc1) (.int .i64 (C : Int)) (.slice ko1 nx1 kc1)
    have hgw := hS1.low.size
    have hS2 := ls_other (ls_other (ls_other (ls_other hS1 (g := w.heap.size) (by omega) (by omega) 0 (.slice xo1 nx1 xc1)) (g := w.heap.size) (by omega) (by omega) 1 (.slice yo1 ny1 yc1)) (g := w.heap.size) (by omega) (by omega) 2 (.int .i64 (C : Int))) (g := w.heap.size) (by omega) (by omega) 3 (.slice ko1 nx1 kc1)
    have hG2 := grown_new (grown_new (grown_new (grown_new hG1' (B := w.heap.size) (by omega) 0 (.slice xo1 nx1 xc1)) (B := w.heap.size) (by omega) 1 (.slice yo1 ny1 yc1)) (B := w.heap.size) (by omega) 2 (.int .i64 (C : Int))) (B := w.heap.size) (by omega) 3 (.slice ko1 nx1 kc1)
    obtain ⟨W2, hW2⟩ : ∃ W2, (((w1.setCell ⟨w.heap.size, 0, none⟩ (.slice xo1 nx1 xc1)).setCell ⟨w.heap.size, 1, none⟩ (.slice yo1 ny1 yc1)).setCell ⟨w.heap.size, 2, none⟩ (.int .i64 (C : Int))).setCell ⟨w.heap.size, 3, none⟩ (.slice ko1 nx1 kc1) = W2 := ⟨_, rfl⟩
    rw [hW2] at hQ2 hS2 hG2
    unfold pzV
    have hAb := hp1.eb
    have hCd := hp1.ed
    obtain ⟨r, hr⟩ : ∃ r, r = decide (nx1 = 0 ∨ ny1 = 0) := ⟨_, rfl⟩
    have HR : Hid (r = decide (nx1 = 0 ∨ ny1 = 0)) := hr
    obtain ⟨q0, q1, q2, q3⟩ := hQ2.cells
    clear hr
    go_wp2_with fail
    refine (Empty_f xo1 nx1 xc1 yo1 ny1 yc1 C ko1 kc1 W2 r HR).mono ?_
    rintro e w3 ⟨rfl, hB3⟩
    clear q0 q1 q2 q3 c0 c1 c2 c3 f0 hW2 hQ1 hS1 hG1'
    have hQ3 := hQ2.low hB3
    have hS3 := hS2.keep hB3
    have hG3 := hG2.trans (low_grown hB3 (some g))
    clear hQ2 hS2 hG2 hB3
    cases r with
    | true =>
      have e : K1 = KF := by
        have h1 := of_decide_eq_true HR.out.symm
        have := HK3.out
        rw [if_neg (by omega)] at this
        exact this
      subst e
      go_wp2
      (try simp only [Exit.inBlock, Exit.then])
      refine bodyPost_ret (results_none rfl _ _ _) rfl ?_
      exact ⟨rfl, hS3, hG3⟩
    | false =>
      have h1 := of_decide_eq_false HR.out.symm
      have hm0 : A < b1 ∧ C < d1 := by omega
      have HK2 : Hid (wrk K1 (pmid x y (pcs (pmid x y) x y f) A b1 C d1) = KF) := (by
        show _ = _
        have := HK3.out
        rw [if_pos hm0] at this
        exact this)
      clear HK3 HR
      have hbx := hp1.bx
      have hdy := hp1.dy
      obtain ⟨X, hX⟩ : ∃ X, sub x A b1 = X := ⟨_, rfl⟩
      obtain ⟨Y, hY⟩ : ∃ Y, sub y C d1 = Y := ⟨_, rfl⟩
      have hXl : X.length = nx1 := by rw [← hX, sub_length x A b1 hbx]; omega
      have hYl : Y.length = ny1 := by rw [← hY, sub_length y C d1 hdy]; omega
      have hx3 : HI w3 (.slice xo1 nx1 xc1) X := by
        unfold HI
        rw [hXl, ← hX]
        exact Holds.keep hp1.hx (fun q hq => hS3.low.block q hq)
      have hy3 : HI w3 (.slice yo1 ny1 yc1) Y := by
        unfold HI
        rw [hYl, ← hY]
        exact Holds.keep hp1.hy (fun q hq => hS3.low.block q hq)
      have HW : Hid ((∀ c ∈ X, w64 c) ∧ (∀ c ∈ Y, w64 c)) := (by
        refine ⟨fun c hc => hwx c ?_, fun c hc => hwy c ?_⟩
        · rw [← hX] at hc
          exact List.mem_of_mem_drop (List.mem_of_mem_take hc)
        · rw [← hY] at hc
          exact List.mem_of_mem_drop (List.mem_of_mem_take hc))
      obtain ⟨Q, hQ⟩ : ∃ Q, unq X Y = Q := ⟨_, rfl⟩
      obtain ⟨L, hL⟩ : ∃ L, lng Q = L := ⟨_, rfl⟩
      obtain ⟨n, hn⟩ : ∃ n, L.length = n := ⟨_, rfl⟩
      have HQ : Hid (unq X Y = Q) := hQ
      have HL : Hid (lng Q = L) := hL
      have HN : Hid (L.length = n) := hn
      have hQl : Q.length ≤ nx1 := by rw [← hQ, ← hXl]; exact unq_length' X Y
      have hLn : n ≤ nx1 := by rw [← hn, ← hL]; exact Nat.le_trans (pick_length _ _ _ _) hQl
      have HX : Hid (X.length ≤ 1048576 ∧ Y.length ≤ 1048576 ∧ Q.length ≤ 1048576) := (by refine ⟨?_, ?_, ?_⟩ <;> omega)
      have HK4 : Hid (wrk K1 (if L = [] then lp A C (kp 0 (sub x A b1) (sub y C d1)) else gos (pcs (pmid x y) x y f) A C b1 d1 A C L) = KF) := (by
        show _ = _
        have := HK2.out
        unfold pmid at this
        rw [hX, hY, hQ, hL] at this
        rw [hX, hY]
        exact this)
      have HGs : Hid (∀ KF, wrk K1 (gos (pcs (pmid x y) x y f) A C b1 d1 A C L) = KF → Gs (pcs (pmid x y) x y f) A C b1 d1 L A C K1 KF) := (by
        intro KF h
        have := Gs.start (rec := pcs (pmid x y) x y f) (x := x) (y := y) (K := K1) (KF := KF) (a := A) (b := b1) (c := C) (d := d1) (by omega) hbx (by omega) hdy
        rw [hX, hY, hQ, hL] at this
        exact this h)
      have hnl : n ≤ 4096 := by omega
      clear hX hY hXl hYl hQ hL hn HK2 hQl hLn
      obtain ⟨q0, q1, q2, q3⟩ := hQ3.cells
      go_wp2_with fail
      refine (Unique_f X Y _ _ w3 hx3 hy3 HX.out.1 HX.out.2.1 HW.out.1 HW.out.2 Q HQ).mono ?_
      rintro e w4 ⟨v4, rfl, hQr, hB4⟩
      obtain ⟨qo, qc, rfl⟩ := Holds.form hQr
      clear q0 q1 q2 q3 hx3 hy3 HW
      go_wp2_with fail
      refine (Longest_f Q _ w4 hQr HX.out.2.2 L HL).mono ?_
      rintro e w5 ⟨v5, rfl, hO, hB5⟩
      obtain ⟨lo, lc, rfl⟩ := (holds_of hO).form
      rw [HN.out] at hO ⊢
      have hB35 : Below w3.heap.size w3 w5 := hB4.trans (hB5.mono hB4.size)
      have hgB : g < w4.heap.size := by have := hS3.lt; have := hB4.size; omega
      obtain ⟨B, hB⟩ : ∃ B, w4.heap.size = B := ⟨_, rfl⟩
      rw [hB] at hO hgB
      have hQ5 := hQ3.low hB35
      have hS5 := hS3.keep hB35
      have hG5 := hG3.trans (low_grown hB35 (some g))
      clear hB hB4 hB5 hB35 hQ3 hS3 hG3 hQr HQ HL HX
      obtain ⟨q0, q1, q2, q3⟩ := hQ5.cells
      by_cases hn0 : n = 0
      · have e3 : ((n : Int) == 0) = true := by simp; omega
        have HK5 : Hid (wrk K1 (lp A C (kp 0 (sub x A b1) (sub y C d1))) = KF) := (by
          show _ = _
          have := HK4.out
          rw [if_pos (List.eq_nil_of_length_eq_zero (by rw [HN.out]; exact hn0))] at this
          exact this)
        clear hn0 HK4 HGs
        go_wp2_with fail
        refine (KeepMost_f x y W0 w5 g K1 A b1 C d1 xo1 nx1 xc1 yo1 ny1 yc1 ko1 kc1 hp1 hxl hyl hS5 KF HK5).mono ?_
        rintro e w6 ⟨rfl, hS6, hG6⟩
        have hG7 := hG5.trans hG6
        go_wp2
        (try simp only [Exit.inBlock, Exit.then])
        refine bodyPost_ret (results_none rfl _ _ _) rfl ?_
        exact ⟨rfl, hS6, hG7⟩
      · have e3 : ((n : Int) == 0) = false := by simp; omega
        have HG0 : Hid (Gs (pcs (pmid x y) x y f) A C b1 d1 (L.drop 0) A C K1 KF) := (by
          refine HGs.out KF ?_
          have := HK4.out
          rw [if_neg (fun h => hn0 (by rw [← HN.out, h]; rfl))] at this
          exact this)
        clear HK4 HGs
        have hBn := Bx2.new w5 0 0
        have hLn : Below w5.heap.size w5 (w5.alloc (.cells #[.int .i64 ((0 : Nat) : Int), .int .i64 ((0 : Nat) : Int)] 189)) := (Below.refl _ w5).alloc (Nat.le_refl _) _
        have hQ6 := hQ5.low hLn
        have hS6 := hS5.keep hLn
        have hG6 := hG5.trans (low_grown hLn (some g))
        have hO6 := owns_keep hO hLn
        have hw5 := hS5.low.size
        have hw6 := hS5.lt
        have hw7 := hG5.size
        have hw8 := hQ5.lt
        have hlo : Hid (∀ ad : Addr, lo = some ad → ad.block < w5.heap.size) := (by
          intro ad e
          rcases hO.2 with ⟨h, _⟩ | ⟨g', cap', cur, h, _, hcur, _⟩
          · cases h
            cases e
          · cases h
            cases e
            exact (Array.getElem?_eq_some_iff.1 hcur).1)
        clear hQ5 hS5 hG5 hO hLn q0 q1 q2 q3
        go_wp2
        go_loopw [24] (fun iv wr => ∃ (i bx cy a' c' : Nat) (K' : List Int), i ≤ n ∧ iv = .int .i64 i ∧ a' = A + bx ∧ c' = C + cy ∧ Ls W0 g x.length K' wr ∧ w.grownBy wr (some g) ∧ Qbx wr w.heap.size (.slice xo1 nx1 xc1) (.slice yo1 ny1 yc1) (.int .i64 C) (.slice ko1 nx1 kc1) ∧ Bx2 wr w5.heap.size bx cy ∧ wr.ownsRow B 189 2 (.slice lo n lc) n (prcells L) ∧ (i = 0 ∨ A < a') ∧ Hid (Gs (pcs (pmid x y) x y f) A C b1 d1 (L.drop i) a' c' K' KF)) (fun iv _ => n - (intOf iv).toNat)
        case atStart => exact ⟨0, 0, 0, A, C, K1, Nat.zero_le _, rfl, rfl, rfl, hS6, hG6, hQ6, hBn, hO6, .inl rfl, HG0⟩
        case round =>
          clear hQ6 hS6 hG6 hBn hO6 HG0
          obtain ⟨i, bx, cy, a', c', K', hi, rfl, ha', hc', hS, hG, hQ, hBb, hO, hia, HG⟩ := hrel
          have hwr := hS.low.size
          have hgr := hG.size
          have hlr := hBb.lt
          by_cases hlt : i < n
          · have hiL : i < L.length := by rw [HN.out]; exact hlt
            obtain ⟨p, hp⟩ : ∃ p, L[i] = p := ⟨_, rfl⟩
            have HG2 : Hid (Gs (pcs (pmid x y) x y f) A C b1 d1 (p :: L.drop (i + 1)) a' c' K' KF) := (by
              have := HG.out
              rw [List.drop_eq_getElem_cons hiL, hp] at this
              exact this)
            obtain ⟨pu, pv, hpu, hpv, q1, q2, q3, q4⟩ := HG2.out.head
            have HG3 : Hid (Gs (pcs (pmid x y) x y f) A C b1 d1 (L.drop (i + 1)) (A + pu + 1) (C + pv + 1) (wrk (wrk K' (pcs (pmid x y) x y f a' (A + pu) c' (C + pv))) (fp (A + pu) (C + pv) 1)) KF) := HG2.out.step hpu hpv
            have hAa := HG2.out.Aa
            have hCc := HG2.out.Cc
            obtain ⟨lb, lf, lcc, hle, _, hcl⟩ := Holds.at (holds_of hO) (by rw [prcells_length]; omega)
            cases hle
            have hlb : lb ≠ w5.heap.size := Nat.ne_of_lt (hlo.out _ rfl)
            have l0 : wr.cell? ⟨lb, lf + i * 2, none⟩ = some (.int .i64 (pu : Int)) := by
              obtain ⟨t1, t2⟩ := List.getElem?_eq_some_iff.1 (prcells_at L i hiL).1
              have := hcl _ t1
              rw [t2, hp, hpu, show 2 * i = i * 2 by omega] at this
              exact this
            have l1 : wr.cell? ⟨lb, lf + i * 2 + 1, none⟩ = some (.int .i64 (pv : Int)) := by
              obtain ⟨t1, t2⟩ := List.getElem?_eq_some_iff.1 (prcells_at L i hiL).2
              have := hcl _ t1
              rw [t2, hp, hpv, show 2 * i + 1 = i * 2 + 1 by omega] at this
              exact this
            clear hcl HG HG2 hpu hpv hp
            have i1 : 0 ≤ (i : Int) := by omega
            have i2 : (i : Int) < (n : Int) := by omega
            have hEn := Bx2.new wr pu pv
            have hLn : Below wr.heap.size wr (wr.alloc (.cells #[.int .i64 (pu : Int), .int .i64 (pv : Int)] 189)) := (Below.refl _ wr).alloc (Nat.le_refl _) _
            have hQ1 := hQ.low hLn
            have hS1 := hS.keep hLn
            have hG1 := hG.trans (low_grown hLn (some g))
            have hB1 := hBb.low hLn
            have hO1 := owns_keep hO hLn
            clear hQ hS hG hBb hO hLn
            obtain ⟨W3, hW3⟩ : ∃ W3, wr.alloc (.cells #[.int .i64 (pu : Int), .int .i64 (pv : Int)] 189) = W3 := ⟨_, rfl⟩
            rw [hW3] at hEn hQ1 hS1 hG1 hB1 hO1
            obtain ⟨u2, hu⟩ : ∃ u, A + pu = u := ⟨_, rfl⟩
            obtain ⟨v2, hv⟩ : ∃ v, C + pv = v := ⟨_, rfl⟩
            rw [hu, hv] at HG3
            rw [hu] at q1 q2
            rw [hv] at q3 q4
            obtain ⟨KK, hKK⟩ : ∃ KK, wrk K' (pcs (pmid x y) x y f a' u2 c' v2) = KK := ⟨_, rfl⟩
            have HKK : Hid (wrk K' (pcs (pmid x y) x y f a' u2 c' v2) = KK) := hKK
            rw [hKK] at HG3
            have hsz3 := hG1.size
            have hlt3 := hEn.lt
            have hcs : ∀ u : World, W3.grownBy u (some g) → u.cell? ⟨Bf, 0, none⟩ = some (.func (.func 98) #[] #[.pointer (some ⟨Bf, 0, none⟩)]) ∧ u.cell? ⟨w.heap.size, 0, none⟩ = some (.slice xo1 nx1 xc1) ∧ u.cell? ⟨w.heap.size, 1, none⟩ = some (.slice yo1 ny1 yc1) ∧ u.cell? ⟨w.heap.size, 2, none⟩ = some (.int .i64 (C : Int)) ∧ u.cell? ⟨w.heap.size, 3, none⟩ = some (.slice ko1 nx1 kc1) ∧ u.cell? ⟨wr.heap.size, 0, none⟩ = some (.int .i64 (pu : Int)) ∧ u.cell? ⟨wr.heap.size, 1, none⟩ = some (.int .i64 (pv : Int)) ∧ u.cell? ⟨w5.heap.size, 0, none⟩ = some (.int .i64 (bx : Int)) ∧ u.cell? ⟨w5.heap.size, 1, none⟩ = some (.int .i64 (cy : Int)) := fun u hu => by
              have hfb := hS1.low.grown hu hS1.low.size (fun k hk => by cases hk; exact hg.1)
              obtain ⟨t0, t1, t2, t3⟩ := (hQ1.keep hu (by simp; omega)).cells
              obtain ⟨t4, t5⟩ := (hEn.keep hu (by simp; omega)).cells
              obtain ⟨t6, t7⟩ := (hB1.keep hu (by simp; omega)).cells
              exact ⟨cell_below hfb hf0, t0, t1, t2, t3, t4, t5, t6, t7⟩
            obtain ⟨z0, z1, z2, z3, z4, z5, z6, z7, z8⟩ := hcs W3 (World.grownBy.refl _ _)
            have hLw : Low W3 W3 := Below.refl _ _
            go_wp2_with fail
            clear hW3 l0 l1
            refine wp_region_noPanic ?_
            refine wp_region_held_drew (S := fun u => W3.grownBy u (some g)) (by kernel_rfl) (grown_drewN (World.grownBy.refl W3 _) 1) (fun hHeld => ?_)
            refine go_take 0 28 _ (.func (.func 98) #[] #[.pointer (some ⟨Bf, 0, none⟩)]) rfl (by kernel_rfl) (by kernel_rfl) (by kernel_rfl) (by kernel_rfl) (fun _ _ _ h => h) (Or.inl ⟨by kernel_rfl, fun u hu => load_fn (hcs u hu).1 (.tmp 1) (by kernel_rfl) (by kernel_rfl)⟩) hHeld ?_
            simp only [Act.put, List.setIfInBounds_toArray, List.set_cons_zero, List.set_cons_succ]
            refine go_take 1 29 _ (.agg #[.slice xo1 nx1 xc1, .slice yo1 ny1 yc1, .int .i64 (C : Int), .slice ko1 nx1 kc1]) rfl (by kernel_rfl) (by kernel_rfl) (by kernel_rfl) (by kernel_rfl) (fun _ _ _ h => h) (Or.inl ⟨by kernel_rfl, fun u hu => load_pz (hQ1.keep hu (by simp; omega)) (.tmp 2) (by kernel_rfl) (by kernel_rfl)⟩) hHeld ?_
            simp only [Act.put, List.setIfInBounds_toArray, List.set_cons_zero, List.set_cons_succ]
            refine go_take 2 30 _ (.pointer (some ⟨wr.heap.size, 0, none⟩)) rfl (by kernel_rfl) (by kernel_rfl) (by kernel_rfl) (by kernel_rfl) (fun _ _ _ h => h) (Or.inl ⟨by kernel_rfl, fun u hu => by kernel_rfl⟩) hHeld ?_
            simp only [Act.put, List.setIfInBounds_toArray, List.set_cons_zero, List.set_cons_succ]
            refine go_take 3 31 _ (.int .i64 (pu : Int)) rfl (by kernel_rfl) (by kernel_rfl) (by kernel_rfl) (by kernel_rfl) (fun _ _ _ h => h) (Or.inl ⟨by kernel_rfl, fun u hu => load_int (hcs u hu).2.2.2.2.2.1 (.tmp 30) (by kernel_rfl) (by kernel_rfl)⟩) hHeld ?_
            simp only [Act.put, List.setIfInBounds_toArray, List.set_cons_zero, List.set_cons_succ]
            refine go_take 4 32 _ (.pointer (some ⟨wr.heap.size, 1, none⟩)) rfl (by kernel_rfl) (by kernel_rfl) (by kernel_rfl) (by kernel_rfl) (fun _ _ _ h => h) (Or.inl ⟨by kernel_rfl, fun u hu => by kernel_rfl⟩) hHeld ?_
            simp only [Act.put, List.setIfInBounds_toArray, List.set_cons_zero, List.set_cons_succ]
            refine go_take 5 33 _ (.int .i64 (pv : Int)) rfl (by kernel_rfl) (by kernel_rfl) (by kernel_rfl) (by kernel_rfl) (fun _ _ _ h => h) (Or.inl ⟨by kernel_rfl, fun u hu => load_int (hcs u hu).2.2.2.2.2.2.1 (.tmp 32) (by kernel_rfl) (by kernel_rfl)⟩) hHeld ?_
            simp only [Act.put, List.setIfInBounds_toArray, List.set_cons_zero, List.set_cons_succ]
            refine go_take 7 35 _ (.pointer (some ⟨w5.heap.size, 0, none⟩)) rfl (by kernel_rfl) (by kernel_rfl) (by kernel_rfl) (by kernel_rfl) (fun _ _ _ h => h) (Or.inl ⟨by kernel_rfl, fun u hu => by kernel_rfl⟩) hHeld ?_
            simp only [Act.put, List.setIfInBounds_toArray, List.set_cons_zero, List.set_cons_succ]
            refine go_take 8 36 _ (.int .i64 (bx : Int)) rfl (by kernel_rfl) (by kernel_rfl) (by kernel_rfl) (by kernel_rfl) (fun _ _ _ h => h) (Or.inl ⟨by kernel_rfl, fun u hu => load_int (hcs u hu).2.2.2.2.2.2.2.1 (.tmp 35) (by kernel_rfl) (by kernel_rfl)⟩) hHeld ?_
            simp only [Act.put, List.setIfInBounds_toArray, List.set_cons_zero, List.set_cons_succ]
            refine go_take 9 37 _ (.pointer (some ⟨w5.heap.size, 1, none⟩)) rfl (by kernel_rfl) (by kernel_rfl) (by kernel_rfl) (by kernel_rfl) (fun _ _ _ h => h) (Or.inl ⟨by kernel_rfl, fun u hu => by kernel_rfl⟩) hHeld ?_
            simp only [Act.put, List.setIfInBounds_toArray, List.set_cons_zero, List.set_cons_succ]
            refine go_take 10 38 _ (.int .i64 (cy : Int)) rfl (by kernel_rfl) (by kernel_rfl) (by kernel_rfl) (by kernel_rfl) (fun _ _ _ h => h) (Or.inl ⟨by kernel_rfl, fun u hu => load_int (hcs u hu).2.2.2.2.2.2.2.2 (.tmp 37) (by kernel_rfl) (by kernel_rfl)⟩) hHeld ?_
            simp only [Act.put, List.setIfInBounds_toArray, List.set_cons_zero, List.set_cons_succ]
            refine go_callE 6 34 _ rfl (by kernel_rfl) (by kernel_rfl) (by kernel_rfl) 104 (.func 104) #[.tmp 29, .tmp 31, .tmp 33] #[183, 3, 3] (by kernel_rfl) #[] (by kernel_rfl) #[.agg #[.slice xo1 nx1 xc1, .slice yo1 ny1 yc1, .int .i64 (C : Int), .slice ko1 nx1 kc1], .int .i64 (pu : Int), .int .i64 (pv : Int)] (by kernel_rfl) (enters_of Tryz.func104 (by kernel_rfl) rfl) _ (upTo_held hp1 pu pv u2 v2 (by omega) (by omega) hu hv W3 _ (Below.dN hLw 1)) ?_
            rintro _ wd hHeld ⟨xo2, nx2, xc2, yo2, ny2, yc2, ko2, kc2, rfl, hp2, hlw⟩
            simp only [Act.put, List.setIfInBounds_toArray, List.set_cons_zero, List.set_cons_succ]
            refine go_callE 11 39 _ rfl (by kernel_rfl) (by kernel_rfl) (by kernel_rfl) 105 (.func 105) #[.tmp 34, .tmp 36, .tmp 38] #[183, 3, 3] (by kernel_rfl) #[] (by kernel_rfl) #[.agg #[.slice xo2 nx2 xc2, .slice yo2 ny2 yc2, .int .i64 (C : Int), .slice ko2 nx2 kc2], .int .i64 (bx : Int), .int .i64 (cy : Int)] (by kernel_rfl) (enters_of Tryz.func105 (by kernel_rfl) rfl) _ (from_held hp2 hyl bx cy a' c' q1 q3 ha'.symm hc'.symm W3 _ hlw) ?_
            rintro _ we hHeld ⟨xo3, nx3, xc3, yo3, ny3, yc3, ko3, kc3, rfl, hp3, hlw3⟩
            simp only [Act.put, List.setIfInBounds_toArray, List.set_cons_zero, List.set_cons_succ]
            refine go_callE 12 40 _ rfl (by kernel_rfl) (by kernel_rfl) (by kernel_rfl) 98 (.tmp 28) #[.tmp 39] #[183] (by kernel_rfl) #[.pointer (some ⟨Bf, 0, none⟩)] (by kernel_rfl) #[.agg #[.slice xo3 nx3 xc3, .slice yo3 ny3 yc3, .int .i64 (c' : Int), .slice ko3 nx3 kc3]] (by kernel_rfl) (enters_of Tryz.func98 (by kernel_rfl) rfl) _ (call_held hlw3 (ih we K' (hS1.keep hlw3) a' u2 c' v2 xo3 nx3 xc3 yo3 ny3 yc3 ko3 kc3 hp3 (by omega) KK HKK)) ?_
            rintro _ wg hHeld ⟨rfl, hS4⟩
            simp only [Act.put, List.setIfInBounds_toArray, List.set_cons_zero, List.set_cons_succ]
            refine wpAnyH_done (by kernel_rfl) ?_ _
            refine NoPanic.normal ?_
            have hQ4 := hQ1.keep hHeld (by simp; omega)
            have hE4 := hEn.keep hHeld (by simp; omega)
            have hB4 := hB1.keep hHeld (by simp; omega)
            have hO4 := holds_grown hO1 hHeld hgB
            have hG4 := hG1.trans hHeld
            clear hcs z0 z1 z2 z3 z4 z5 z6 z7 z8 hHeld hQ1 hEn hB1 hO1 hG1 hS1 hLw hlw hlw3 hp2 hp3
            obtain ⟨q0, q1', q2', q3'⟩ := hQ4.cells
            obtain ⟨t4, t5⟩ := hE4.cells
            go_wp2_with fail
            refine (Keep_1 KK xo1 nx1 xc1 yo1 ny1 yc1 A C ko1 kc1 wg pu pv hS4 hp1.at' (by omega) (by omega) (by omega) (by omega)).mono ?_
            rintro e wh ⟨rfl, hS5, hG5⟩
            have hQ5 := hQ4.keep hG5 (by simp; omega)
            have hE5 := hE4.keep hG5 (by simp; omega)
            have hB5 := hB4.keep hG5 (by simp; omega)
            have hO5 := holds_grown hO4 hG5 hgB
            have hG6 := hG4.trans hG5
            rw [hu, hv] at hS5
            clear q0 q1' q2' q3' t4 t5 hQ4 hE4 hB4 hO4 hG4 hG5 hS4
            obtain ⟨t4, t5⟩ := hE5.cells
            obtain ⟨t6, t7⟩ := hB5.cells
            have f1 := hB5.frozen
            have hl5 := hB5.lt
            have hs6 := hG6.size
            have hs5 := hS5.low.size
            have hB6 := hB5.put (pu + 1) (pv + 1)
            have hS6 := ls_other (ls_other hS5 (g := w5.heap.size) (by omega) (by omega) 0 (.int .i64 ((pu + 1 : Nat) : Int))) (g := w5.heap.size) (by omega) (by omega) 1 (.int .i64 ((pv + 1 : Nat) : Int))
            have hgs : wh.grownBy ((wh.setCell ⟨w5.heap.size, 0, none⟩ (.int .i64 ((pu + 1 : Nat) : Int))).setCell ⟨w5.heap.size, 1, none⟩ (.int .i64 ((pv + 1 : Nat) : Int))) (some w5.heap.size) := (grown_set wh w5.heap.size 0 _).trans (grown_set _ w5.heap.size 1 _)
            have hQ6 := hQ5.keep hgs (by simp; omega)
            have hG7 := grown_new (grown_new hG6 (B := w5.heap.size) (by omega) 0 (.int .i64 ((pu + 1 : Nat) : Int))) (B := w5.heap.size) (by omega) 1 (.int .i64 ((pv + 1 : Nat) : Int))
            have hO6 : ((wh.setCell ⟨w5.heap.size, 0, none⟩ (.int .i64 ((pu + 1 : Nat) : Int))).setCell ⟨w5.heap.size, 1, none⟩ (.int .i64 ((pv + 1 : Nat) : Int))).ownsRow B 189 2 (.slice (some ⟨lb, lf, none⟩) n lc) n (prcells L) := hO5.kept hgs (.inr (fun e => hlb (by simp [Value.ownBlock] at e; exact e)))
            go_wp2
            go_roundw
            case rel => exact ⟨i + 1, pu + 1, pv + 1, u2 + 1, v2 + 1, _, by omega, by go_num, by omega, by omega, hS6, hG7, hQ6, hB6, hO6, .inr (by omega), HG3⟩
            case measure => simp [intOf]; omega
          · obtain rfl : i = n := by omega
            have hbb := HG.out.ab'
            have hdd := HG.out.cd
            have hAa := HG.out.Aa
            have HE : Hid (wrk K' (pcs (pmid x y) x y f a' b1 c' d1) = KF) := (by
              have := HG.out
              rw [List.drop_of_length_le (by rw [HN.out]; exact Nat.le_refl _)] at this
              exact this.end')
            have hcs : ∀ u : World, wr.grownBy u (some g) → u.cell? ⟨Bf, 0, none⟩ = some (.func (.func 98) #[] #[.pointer (some ⟨Bf, 0, none⟩)]) ∧ u.cell? ⟨w5.heap.size, 0, none⟩ = some (.int .i64 (bx : Int)) ∧ u.cell? ⟨w5.heap.size, 1, none⟩ = some (.int .i64 (cy : Int)) := fun u hu => by
              have hfb := hS.low.grown hu hS.low.size (fun k hk => by cases hk; exact hg.1)
              obtain ⟨t6, t7⟩ := (hBb.keep hu (by simp; omega)).cells
              exact ⟨cell_below hfb hf0, t6, t7⟩
            go_wp2_with fail
            refine wp_region_noPanic ?_
            refine wp_region_held_drew (S := fun u => wr.grownBy u (some g)) (by kernel_rfl) (grown_drewN (World.grownBy.refl wr _) 1) (fun hHeld => ?_)
            refine go_take 0 55 _ (.func (.func 98) #[] #[.pointer (some ⟨Bf, 0, none⟩)]) rfl (by kernel_rfl) (by kernel_rfl) (by kernel_rfl) (by kernel_rfl) (fun _ _ _ h => h) (Or.inl ⟨by kernel_rfl, fun u hu => load_fn (hcs u hu).1 (.tmp 1) (by kernel_rfl) (by kernel_rfl)⟩) hHeld ?_
            simp only [Act.put, List.setIfInBounds_toArray, List.set_cons_zero, List.set_cons_succ]
            refine go_take 1 56 _ (.agg #[.slice xo1 nx1 xc1, .slice yo1 ny1 yc1, .int .i64 (C : Int), .slice ko1 nx1 kc1]) rfl (by kernel_rfl) (by kernel_rfl) (by kernel_rfl) (by kernel_rfl) (fun _ _ _ h => h) (Or.inl ⟨by kernel_rfl, fun u hu => load_pz (hQ.keep hu (by simp; omega)) (.tmp 2) (by kernel_rfl) (by kernel_rfl)⟩) hHeld ?_
            simp only [Act.put, List.setIfInBounds_toArray, List.set_cons_zero, List.set_cons_succ]
            refine go_take 2 57 _ (.pointer (some ⟨w5.heap.size, 0, none⟩)) rfl (by kernel_rfl) (by kernel_rfl) (by kernel_rfl) (by kernel_rfl) (fun _ _ _ h => h) (Or.inl ⟨by kernel_rfl, fun u hu => by kernel_rfl⟩) hHeld ?_
            simp only [Act.put, List.setIfInBounds_toArray, List.set_cons_zero, List.set_cons_succ]
            refine go_take 3 58 _ (.int .i64 (bx : Int)) rfl (by kernel_rfl) (by kernel_rfl) (by kernel_rfl) (by kernel_rfl) (fun _ _ _ h => h) (Or.inl ⟨by kernel_rfl, fun u hu => load_int (hcs u hu).2.1 (.tmp 57) (by kernel_rfl) (by kernel_rfl)⟩) hHeld ?_
            simp only [Act.put, List.setIfInBounds_toArray, List.set_cons_zero, List.set_cons_succ]
            refine go_take 4 59 _ (.pointer (some ⟨w5.heap.size, 1, none⟩)) rfl (by kernel_rfl) (by kernel_rfl) (by kernel_rfl) (by kernel_rfl) (fun _ _ _ h => h) (Or.inl ⟨by kernel_rfl, fun u hu => by kernel_rfl⟩) hHeld ?_
            simp only [Act.put, List.setIfInBounds_toArray, List.set_cons_zero, List.set_cons_succ]
            refine go_take 5 60 _ (.int .i64 (cy : Int)) rfl (by kernel_rfl) (by kernel_rfl) (by kernel_rfl) (by kernel_rfl) (fun _ _ _ h => h) (Or.inl ⟨by kernel_rfl, fun u hu => load_int (hcs u hu).2.2 (.tmp 59) (by kernel_rfl) (by kernel_rfl)⟩) hHeld ?_
            simp only [Act.put, List.setIfInBounds_toArray, List.set_cons_zero, List.set_cons_succ]
            refine go_callE 6 61 _ rfl (by kernel_rfl) (by kernel_rfl) (by kernel_rfl) 105 (.func 105) #[.tmp 56, .tmp 58, .tmp 60] #[183, 3, 3] (by kernel_rfl) #[] (by kernel_rfl) #[.agg #[.slice xo1 nx1 xc1, .slice yo1 ny1 yc1, .int .i64 (C : Int), .slice ko1 nx1 kc1], .int .i64 (bx : Int), .int .i64 (cy : Int)] (by kernel_rfl) (enters_of Tryz.func105 (by kernel_rfl) rfl) _ (from_held hp1 hyl bx cy a' c' hbb hdd ha'.symm hc'.symm wr _ (Below.dN (Below.refl _ wr) 1)) ?_
            rintro _ we hHeld ⟨xo3, nx3, xc3, yo3, ny3, yc3, ko3, kc3, rfl, hp3, hlw3⟩
            simp only [Act.put, List.setIfInBounds_toArray, List.set_cons_zero, List.set_cons_succ]
            refine go_callE 7 62 _ rfl (by kernel_rfl) (by kernel_rfl) (by kernel_rfl) 98 (.tmp 55) #[.tmp 61] #[183] (by kernel_rfl) #[.pointer (some ⟨Bf, 0, none⟩)] (by kernel_rfl) #[.agg #[.slice xo3 nx3 xc3, .slice yo3 ny3 yc3, .int .i64 (c' : Int), .slice ko3 nx3 kc3]] (by kernel_rfl) (enters_of Tryz.func98 (by kernel_rfl) rfl) _ (call_held hlw3 (ih we K' (hS.keep hlw3) a' b1 c' d1 xo3 nx3 xc3 yo3 ny3 yc3 ko3 kc3 hp3 (by omega) KF HE)) ?_
            rintro _ wg hHeld ⟨rfl, hS4⟩
            simp only [Act.put, List.setIfInBounds_toArray, List.set_cons_zero, List.set_cons_succ]
            refine wpAnyH_done (by kernel_rfl) ?_ _
            refine NoPanic.normal ?_
            have hG8 := hG.trans hHeld
            go_wp2
            go_end0
            exact ⟨rfl, hS4, hG8⟩
end Go.Proofs.YtnlbjknfahhfaaaGreatDoor

/- None of the reference, walked. -/
set_option maxRecDepth 20000
namespace Go.Proofs.YtnlbjknfahhfaaaGreatDoor
open Go.RowKit

end Go.Proofs.YtnlbjknfahhfaaaGreatDoor

/- The reference's Trim, walked. -/
set_option maxRecDepth 20000
namespace Go.Proofs.YtnlbjknfahhfaaaGreatDoor
open Go.RowKit

/-- a piece as a value, in a box -/
def pcV (a b c d : Nat) : Value := .agg #[.int .i64 a, .int .i64 b, .int .i64 c, .int .i64 d]
section
variable {W0 : World} {n : Nat} {K : List Int} {B a b c d : Nat} {u : World}
end

end Go.Proofs.YtnlbjknfahhfaaaGreatDoor

/- What the least edit script keeps, by the reference: Keeps, Length and Diff, walked. -/
set_option maxRecDepth 20000
namespace Go.Proofs.YtnlbjknfahhfaaaGreatDoor
open Go.RowKit

end Go.Proofs.YtnlbjknfahhfaaaGreatDoor

/- The reference's Least, walked. -/
set_option maxRecDepth 20000
namespace Go.Proofs.YtnlbjknfahhfaaaGreatDoor
open Go.RowKit
attribute [local simp] low_drew

end Go.Proofs.YtnlbjknfahhfaaaGreatDoor

/- The reference's piece, walked, by induction on how long it may be. -/
set_option maxRecDepth 20000
namespace Go.Proofs.YtnlbjknfahhfaaaGreatDoor
open Go.RowKit
attribute [local simp] low_drew

theorem unq_length (x y : List Int) : (unq x y).length ≤ x.length := uq_length x y 0 x
theorem lng_length (l : List Pr) : (lng l).length ≤ l.length := pick_length _ _ _ _

end Go.Proofs.YtnlbjknfahhfaaaGreatDoor

/- What an argument of type []redlineref07.Pair holds. -/
set_option maxRecDepth 20000
namespace Go.Proofs.YtnlbjknfahhfaaaGreatDoor
open Go.ChangeShapes Go.WideShapes Go.ChangeAt Go.RowKit

/-- a pair of numbers that an int holds -/
def wPr (p : Pr) : Prop := w64 p.X ∧ w64 p.Y

end Go.Proofs.YtnlbjknfahhfaaaGreatDoor

/- patience.Diff and the reference's Diff, walked. -/
set_option maxRecDepth 20000
namespace Go.Proofs.YtnlbjknfahhfaaaGreatDoor
open Go.RowKit

/-- what patience keeps -/
def pKeep (x y : List Int) : List Int := wrk (List.replicate x.length (-1)) (pcs (pmid x y) x y (x.length + 1) 0 x.length 0 y.length)
theorem pKeep_ok (x y : List Int) : Okp x y 0 x.length 0 y.length (pcs (pmid x y) x y (x.length + 1) 0 x.length 0 y.length) := pcs_ok (pmid_ok x y) _ 0 x.length 0 y.length (Nat.zero_le _) (Nat.le_refl _) (Nat.zero_le _) (Nat.le_refl _)
theorem pKeep_kpt (x y : List Int) : Kpt x y (pKeep x y) := (pKeep_ok x y).kpt

set_option maxRecDepth 10000 in
set_option maxHeartbeats 2000000 in
theorem paDiff_f (x y : List Int) (vx vy : Value) (w : World) (hx : HI w vx x) (hy : HI w vy y) (hxl : x.length ≤ 4096) (hyl : y.length ≤ 4096) (hwx : ∀ c ∈ x, w64 c) (hwy : ∀ c ∈ y, w64 c) (L : List Ch) (hL : Hid (mkL (pKeep x y) y.length = L)) :
    Calls Tryz.prog 71 #[vx, vy] w fun e w' => ∃ v', e = .returned (.tuple #[v', .int .i64 0]) ∧ HCh w' v' L ∧ Below w.heap.size w w' := by
  obtain ⟨xo, xc, rfl⟩ := Holds.form hx
  obtain ⟨yo, yc, rfl⟩ := Holds.form hy
  obtain ⟨KF, hKF⟩ : ∃ KF, pKeep x y = KF := ⟨_, rfl⟩
  have HK : Hid (Kpt x y KF) := (by rw [← hKF]; exact pKeep_kpt x y)
  have HF : Hid (wrk (List.replicate x.length (-1)) (pcs (pmid x y) x y (x.length + 1) 0 x.length 0 y.length) = KF) := hKF
  rw [hKF] at hL
  have HWX : Hid (∀ c ∈ x, w64 c) := hwx
  have HWY : Hid (∀ c ∈ y, w64 c) := hwy
  clear hKF hwx hwy
  go_enter Tryz.func71, Tryz.ntmps71
  go_wp2_with fail
  have hW1 : Below w.heap.size w (w.alloc (.cells #[.func (.func 98) #[] #[.pointer (some ⟨w.heap.size, 0, none⟩)]] 181)) := (Below.refl _ w).alloc (Nat.le_refl _) _
  have hf0 : (w.alloc (.cells #[.func (.func 98) #[] #[.pointer (some ⟨w.heap.size, 0, none⟩)]] 181)).cell? ⟨w.heap.size, 0, none⟩ = some (.func (.func 98) #[] #[.pointer (some ⟨w.heap.size, 0, none⟩)]) := by
    rw [Lib.cell_of_heap (_root_.Go.heap_alloc_new w _)]
    rfl
  refine (pDiff_f x y _ _ _ (HI.keep hx hW1 (Nat.le_refl _)) (HI.keep hy hW1 (Nat.le_refl _)) hxl hyl 98 #[.pointer (some ⟨w.heap.size, 0, none⟩)] (enters_of Tryz.func98 (by kernel_rfl) rfl) KF HK (fun u g xo xc yo yc hS hp => find_f x y _ g w.heap.size hf0 hxl hyl HWX.out HWY.out (x.length + 1) u _ hS 0 x.length 0 y.length _ _ _ _ _ _ _ _ hp (by omega) KF HF) L hL).mono ?_
  rintro e w2 ⟨v2, rfl, hv2, hB2⟩
  have hB := hW1.trans (hB2.mono (by simp))
  clear hf0
  go_wp2
  go_ret2
  exact ⟨_, rfl, hv2, hB⟩
set_option maxHeartbeats 2000000 in
theorem paDiff_long (x y : List Int) (vx vy : Value) (w : World) (hx : HI w vx x) (hy : HI w vy y) (hl : 4096 < x.length ∨ 4096 < y.length) :
    Calls Tryz.prog 71 #[vx, vy] w fun e w' => e = .returned (.tuple #[.slice none 0 0, .int .i64 9]) ∧ Below w.heap.size w w' := by
  obtain ⟨xo, xc, rfl⟩ := Holds.form hx
  obtain ⟨yo, yc, rfl⟩ := Holds.form hy
  have HL : Hid (4096 < x.length ∨ 4096 < y.length) := hl
  clear hl
  go_enter Tryz.func71, Tryz.ntmps71
  go_wp2_with fail
  have hW1 : Below w.heap.size w (w.alloc (.cells #[.func (.func 98) #[] #[.pointer (some ⟨w.heap.size, 0, none⟩)]] 181)) := (Below.refl _ w).alloc (Nat.le_refl _) _
  refine (pDiff_long x y _ _ _ _ (HI.keep hx hW1 (Nat.le_refl _)) (HI.keep hy hW1 (Nat.le_refl _)) HL.out).mono ?_
  rintro e w2 ⟨rfl, rfl⟩
  go_wp2
  go_ret2
  exact ⟨rfl, hW1⟩

end Go.Proofs.YtnlbjknfahhfaaaGreatDoor
