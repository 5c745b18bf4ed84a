/-
  How long the longest rising row is that begins with each member: risingFrom, walked.
-/
import Derived.Test.YtppdcjjkkckokaaPaRt
namespace Go.Proofs.Ytppdcjjkkckokaa
open Go.RowKit Go.Shelf
attribute [local go_sem] Oper.semAt_some

theorem low_blk {W W' : World} (h : Low W W') {B : Nat} {o : Obj} (hx : W.heap[B]? = some o) : W'.heap[B]? = some o := (Below.block h B (Array.getElem?_eq_some_iff.1 hx).1).trans hx
set_option maxRecDepth 100000 in
set_option maxHeartbeats 4000000 in
theorem rising_f (l : List Pr) (v : Value) (w : World) (hl : HPr w v l) (hlen : l.length ≤ 1048576) :
    Calls Try.prog 45 #[v] w fun e w' => ∃ v', e = .returned v' ∧ w'.ownsRow w.heap.size 3 1 v' l.length (icells ((rl l).map (fun (n : Nat) => (n : Int)))) ∧ Below w.heap.size w w' := by
  obtain ⟨ao, ca, rfl⟩ := Holds.form hl
  have hmk := run_makeN (T := 29) Try.underlying29 infoInt (by decide) (l.length : Int) l.length rfl (by omega)
  have hrow := World.ownsRow_lit (base := w.heap.size) (e := 3) (size := 1) w (madeCells #[.int .i64 0] l.length) l.length (Nat.le_refl _) (by unfold maxLen; omega) (by rw [size_madeCells]; simp)
  rw [madeL] at hrow
  refine (callsIn_wide (n := 3)).1 ?_
  refine callsIn_of_wp_marks Try.func45 rfl trivial ?_ rfl
  simp only [Try.ntmps45, List.size_toArray, List.length_cons, List.length_nil, Nat.reduceAdd, Nat.reduceSub, Array.replicate_succ, Array.replicate_zero, List.push_toArray, List.append_toArray, List.nil_append, List.cons_append]
  gi_wp2_with (refine ⟨trivial, ?_⟩; gi_at_call 59; refine (callsIn_wide.2 (Backward_any _ _ _ _)).mono ?_; rintro e w' ⟨rfl, rfl⟩)
  obtain ⟨W0, hW0⟩ : ∃ W0, ((((w.alloc (Obj.cells (madeCells #[Value.int IntKind.i64 0] l.length) 3)).alloc (Obj.cells #[Value.slice (some { block := w.heap.size, off := 0 }) l.length l.length] 29)).alloc (Obj.cells #[Value.slice none 0 0] 89)).alloc (Obj.cells #[Value.slice ao l.length ca] 41)) = W0 := ⟨_, rfl⟩
  have hsz : W0.heap.size = w.heap.size + 4 := by rw [← hW0]; simp
  have hB0 : Below w.heap.size w W0 := by rw [← hW0]; exact ((((Below.refl _ w).alloc (Nat.le_refl _) _).alloc (by simp) _).alloc (by simp; omega) _).alloc (by simp; omega) _
  have hrow0 : W0.ownsRow w.heap.size 3 1 (.slice (some ⟨w.heap.size, 0, none⟩) l.length l.length) l.length (icells (lz l.length [])) := by
    rw [← hW0, lz]
    have := ((hrow.alloc (Obj.cells #[Value.slice (some { block := w.heap.size, off := 0 }) l.length l.length] 29)).alloc (Obj.cells #[Value.slice none 0 0] 89)).alloc (Obj.cells #[Value.slice ao l.length ca] 41)
    simpa [icells] using this
  have b1 : Boxed W0 (w.heap.size + 1) 29 (.slice (some ⟨w.heap.size, 0, none⟩) l.length l.length) := by
    rw [← hW0]
    have := Boxed.new (w.alloc (Obj.cells (madeCells #[Value.int IntKind.i64 0] l.length) 3)) 29 (.slice (some ⟨w.heap.size, 0, none⟩) l.length l.length)
    rw [World.size_alloc] at this
    exact (this.alloc _).alloc _
  have b2 : Boxed W0 (w.heap.size + 1 + 1) 89 (.slice none 0 0) := by
    rw [← hW0]
    have := Boxed.new ((w.alloc (Obj.cells (madeCells #[Value.int IntKind.i64 0] l.length) 3)).alloc (Obj.cells #[Value.slice (some { block := w.heap.size, off := 0 }) l.length l.length] 29)) 89 (.slice none 0 0)
    rw [World.size_alloc, World.size_alloc] at this
    exact this.alloc _
  have b3 : Boxed W0 (w.heap.size + 1 + 1 + 1) 41 (.slice ao l.length ca) := by
    rw [← hW0]
    have := Boxed.new (((w.alloc (Obj.cells (madeCells #[Value.int IntKind.i64 0] l.length) 3)).alloc (Obj.cells #[Value.slice (some { block := w.heap.size, off := 0 }) l.length l.length] 29)).alloc (Obj.cells #[Value.slice none 0 0] 89)) 41 (.slice ao l.length ca)
    rw [World.size_alloc, World.size_alloc, World.size_alloc] at this
    exact this
  rw [hW0]
  clear hmk hrow
  refine wpIn_rangeFunc_ownH rfl (by omega) (gf := 73) (lb := #[.pointer (some ⟨w.heap.size + 1 + 1 + 1, 0, none⟩)]) rfl trivial (enters_of Try.func73 (by kernel_rfl) rfl)
    (back_stops 2 (by omega) (w.heap.size + 1 + 1 + 1) w.heap.size ao ca l hlen W0 (by omega) (by omega) b3 (HPr.keep hl hB0 (Nat.le_refl _)) (fun a ha h0 => HPr.lt hl a ha h0)) Kq.trans (Kq.putObj (by omega) (by omega)) (Below.refl _ _) (fun _ => rfl)
    (fun pre W => ∃ va vals H, Rs w l.length ((pre.map (·.1)).reverse) va vals H W ∧ Boxed W (w.heap.size + 1 + 1 + 1) 41 (.slice ao l.length ca))
    (fun _ _ _ => False)
    (fun pre W W' row hI hg hr => by
      obtain ⟨va, vals, H, h1, h2⟩ := hI
      exact ⟨va, vals, H, h1.own hg (fun r e => ⟨by have := (hr r e).1; omega, (hr r e).2⟩), boxed_kept_cells h2 hg (fun r e => (hr r e).2)⟩)
    (fun _ _ _ _ _ hs _ _ => hs)
    ⟨.slice none 0 0, [], [], ⟨hB0, b1, hrow0, b2, ⟨World.ownsRow_nil _ _ _ _, rfl, fun n v h hv => by simp at hv, fun i j v v' g _ hv => by simp at hv⟩, Hds.start, Nat.le_refl _, fun h hh => by simp at hh⟩, b3⟩
    (fun x a' W => ∃ Bx, W.heap[Bx]? = some (Obj.cells #[.int .i64 x.1.2.X, .int .i64 x.1.2.Y] 44 (0, 0)) ∧ a' = { tmps := #[.slice ao l.length ca, undef, .slice none 0 0, .pointer (some ⟨w.heap.size + 1, 0, none⟩), .pointer (some ⟨w.heap.size + 1 + 1, 0, none⟩), .int .i64 (x.1.1 : Int), .pointer (some ⟨Bx, 0, none⟩), undef, .slice ao l.length ca, .int .i64 (l.length : Int), .slice (some ⟨w.heap.size, 0, none⟩) l.length l.length, .slice ao l.length ca, .func (.func 73) #[] #[.pointer (some ⟨w.heap.size + 1 + 1 + 1, 0, none⟩)], .int .i64 (x.1.1 : Int), prV x.1.2, undef, undef, undef, undef, undef, undef, undef, undef, undef, undef, undef, undef, undef, undef, undef, undef, undef, undef, undef, undef, undef, undef, undef, undef, undef, undef], defers := [] })
    ?hAx ?assign ?body ?done ?stop
  case hAx =>
    rintro x a' _ A B row ⟨Bx, hx, rfl⟩ hg hr
    refine ⟨Bx, (hg.block Bx (Array.getElem?_eq_some_iff.1 hx).1 (fun e => ?_)).trans hx, rfl⟩
    obtain ⟨_, o, ho, hc⟩ := hr Bx e.symm
    rw [hx] at ho
    cases ho
    cases hc
  case assign =>
    rintro lp pre x W K ⟨va, vals, H, hR, hb⟩ hK
    have hs := hR.low.size
    have hlt := hb.lt
    simp only [prV]
    gi_wp2
    exact hK _ _ ((KeepsOthers.alloc _ _).from _) (Kq.alloc (by omega) (by omega) _) ⟨va, vals, H, hR.keep ((Below.refl _ W).alloc (Nat.le_refl _) _), hb.alloc _⟩ ⟨W.heap.size, _root_.Go.heap_alloc_new W _, rfl⟩
  case body =>
    rintro lp pre x a' W hlp ⟨r, hr⟩ ⟨va, vals, H, hR, hb⟩ ⟨Bx, hx, rfl⟩ hlt
    obtain ⟨⟨i, X, Y⟩, hi⟩ := x
    dsimp only at hi hx
    have hs := hR.low.size
    have HE : Hid (((pre ++ [(⟨(i, ⟨X, Y⟩), hi⟩ : Mp l.length)]).map (·.1)).reverse = (i, ⟨X, Y⟩) :: (pre.map (·.1)).reverse) := (by show _ = _; simp)
    have hRl : ((pre.map (·.1)).reverse).length = pre.length := by simp
    generalize (pre.map (·.1)).reverse = R at hR HE hRl
    obtain ⟨h1, h2, h3⟩ := mxl_hd hR.hd ⟨X, Y⟩
    obtain ⟨n, hn⟩ : ∃ n, mxl ⟨X, Y⟩ (R.map (·.2)) (rl (R.map (·.2))) = n := ⟨_, rfl⟩
    rw [hn] at h1 h2 h3
    have HN : Hid (mxl ⟨X, Y⟩ (R.map (·.2)) (rl (R.map (·.2))) = n) := hn
    have HH : Hid ((∀ m, m < n → Hd (R.map (·.2)) m ⟨X, Y⟩) ∧ ¬ Hd (R.map (·.2)) n ⟨X, Y⟩) := ⟨h1, h2⟩
    clear h1 h2 hn
    have c4 := hR.abox.cell
    have HVL : Hid (vals.length = H.length) := hR.al.len
    have hHl := hR.hl
    have cX : W.cell? ⟨Bx, 0, none⟩ = some (.int .i64 X) := by rw [Lib.cell_of_heap hx]; rfl
    have cY : W.cell? ⟨Bx, 1, none⟩ = some (.int .i64 Y) := by rw [Lib.cell_of_heap hx]; rfl
    have hbx := (Array.getElem?_eq_some_iff.1 hx).1
    obtain ⟨vo, vc, rfl⟩ := (holds_of hR.al.row).form
    have hst : Hid (∀ h ∈ H, Stair h ∧ h.length ≤ 1048576) := fun h hh => ⟨hR.hd.st h hh, by have := hR.hh h hh; omega⟩
    have hsr : Calls Try.prog 60 #[.int .i64 (vals.length : Int), .func (.func 61) #[] #[.pointer (some ⟨w.heap.size + 1 + 1, 0, none⟩), .pointer (some ⟨Bx, 0, none⟩)]] W fun e w' => e = .returned (.int .i64 (n : Int)) ∧ Low W w' :=
      Search_f 61 #[.pointer (some ⟨w.heap.size + 1 + 1, 0, none⟩), .pointer (some ⟨Bx, 0, none⟩)] vals.length n (fun i => !decide (i < n)) (fun u => Low W u) W (Below.refl _ _) (enters_of Try.func61 (by kernel_rfl) rfl) (by have := HVL.out; omega) (by have := HVL.out; omega)
        (fun i hi u hu => rf1_f H ⟨X, Y⟩ i (w.heap.size + 1 + 1) Bx w.heap.size _ vals W u hu hR.al c4 hR.abox.lt cX cY hbx (by have := HVL.out; omega) hst (by omega) (decide (i < n)) (by
          show _ ↔ _
          have hiH : i < H.length := (by have := HVL.out; omega)
          rw [hR.hd.eq i H[i] (List.getElem?_eq_getElem hiH) ⟨X, Y⟩]
          constructor
          · intro q
            exact HH.out.1 i (of_decide_eq_true q)
          · intro q
            refine decide_eq_true ?_
            by_cases c : i < n
            · exact c
            · exact absurd (q.downs (by omega)) HH.out.2))
        (fun i hi => by simp [hi]) (fun i hi _ => by simp; omega)
    have hRp : Rp w l.length (lz l.length R) (.slice vo vals.length vc) vals H (.slice ao l.length ca) W := ⟨hR.low, hR.lbox, hR.lrow, hR.abox, hR.al, hb⟩
    have HRest : Hid (Hds (R.map (·.2)) H ∧ H.length ≤ R.length ∧ ∀ h ∈ H, h.length ≤ R.length) := ⟨hR.hd, hR.hl, hR.hh⟩
    clear hR hb hst hHl
    by_cases hnl : n = vals.length
    · have e1 : ((n : Int) == (vals.length : Int)) = true := by simp; omega
      have HNL : Hid (n = vals.length) := hnl
      have hvb : vals.length ≤ 1048576 := by have := HVL.out; have := HRest.out.2.1; omega
      clear hnl
      gi_wp2_with (first
        | (refine ⟨trivial, ?_⟩; gi_at_call 60; refine (CallsIn.inRound lp (callsIn_wide.2 hsr)).mono ?_; rintro e W1 ⟨rfl, hL1⟩; obtain ⟨hP1, hS1⟩ := hRp.lo hL1; have c4' := hP1.abox.cell; obtain ⟨hP2, hS2⟩ := hP1.lo (W' := W1.alloc (Obj.cells #[.slice none 0 0] 94)) ((Below.refl _ W1).alloc (Nat.le_refl _) _))
        | (gi_at_builtin; refine wpListIn_append_h _ rfl (.tmp 23) (.tmp 24) 89 94 rfl (.slice none 0 0) 1 24 Try.underlying89 infoHd rfl (by decide) (by decide) w.heap.size (.slice vo vals.length vc) vals.length vals rfl hP2.al.row _ 1 [.slice none 0 0] rfl (new_holds _ _ _ 1 1 (by decide)) rfl (by simp [Value.oneCell']) (by omega) (by simp; have := hP1.low.size; omega) ?_; intro v3 u1 hown3 hgrow3 _; obtain ⟨hP3, hS3⟩ := hP2.more hown3 hgrow3; have b3 := bx_ty hP2.abox hgrow3 (ty_row hP2.al.row) (by decide); have c3 := b3.cell; have f3 := b3.frozen; obtain ⟨g3, vc3, rfl⟩ := ownsRow_succ hown3))
      have hx3 := hP2.more_blk (va' := .slice (some ⟨g3, 0, none⟩) (vals.length + 1) vc3) hgrow3 (low_blk ((Below.refl _ W1).alloc (Nat.le_refl _) _) (low_blk hL1 hx))
      obtain ⟨hd, hhd, hst, hno, hdl, hH1, hH2, hH3⟩ := heads_step i HRest.out h3 HH.out (H' := H ++ [[]]) (by unfold room; rw [if_pos (by have := HVL.out; have := HNL.out; omega)])
      have hvn : n < (vals ++ [Value.slice none 0 0]).length := by have := hP3.al.len; have := (List.getElem?_eq_some_iff.1 hhd).1; omega
      obtain ⟨v1, hv1⟩ : ∃ v1, (vals ++ [Value.slice none 0 0])[n]? = some v1 := ⟨_, List.getElem?_eq_getElem hvn⟩
      have hOw := hP3.al.own n v1 hd hv1 hhd
      have HD : Hid (Hds (((i, ⟨X, Y⟩) :: R).map (·.2)) ((H ++ [[]]).set n (ins hd ⟨X, Y⟩)) ∧ ((H ++ [[]]).set n (ins hd ⟨X, Y⟩)).length ≤ ((i, (⟨X, Y⟩ : Pr)) :: R).length ∧ ∀ x ∈ (H ++ [[]]).set n (ins hd ⟨X, Y⟩), x.length ≤ ((i, (⟨X, Y⟩ : Pr)) :: R).length) := ⟨hH1, hH2, hH3⟩
      clear hH1 hH2 hH3
      refine put_region w l.length (lz l.length R) (.slice ao l.length ca) (vals ++ [Value.slice none 0 0]) (H ++ [[]]) _ Bx n g3 (vals.length + 1) vc3 X Y _ v1 hd (ins hd ⟨X, Y⟩) rfl hP3 (by first | omega | (simp at hvn; omega)) (by have := HVL.out; have := HRest.out.2.1; omega) hv1 (by rw [Lib.cell_of_heap hx3]; rfl) (by rw [Lib.cell_of_heap hx3]; rfl) hOw hst hno (by omega) rfl ?_
      intro v' u hG
      obtain ⟨hP5, hS5⟩ := hP3.put (m := n) (by rw [hhd]; exact hOw) hv1 hG
      have hS6 := ((hS1.trans hS2).trans hS3).trans hS5
      generalize u.setCell ⟨g3, n, none⟩ v' = W5 at hP5 hS6 ⊢
      have cl := hP5.lbox.cell
      have cw : W5.cell? ⟨w.heap.size, i, none⟩ = some (.int .i64 ((lz l.length R)[i]'(by rw [lz_length]; exact hi))) ∧ W5.frozen? ⟨w.heap.size, i, none⟩ = false := row_cell hP5.lrow (by simp [icells, lz_length, hi])
      obtain ⟨cw1, cw2⟩ := cw
      have hnb : n ≤ 1048576 := by have := HRest.out.2.1; omega
      obtain ⟨hP7, hS7⟩ := hP5.write i ((n + 1 : Nat) : Int)
      have hS8 := hS6.trans hS7
      rw [Int.natCast_add, Int.natCast_one] at hP7 hS8
      clear hS7 hG hP5 hS5 hS6
      gi_wp2
      refine ⟨hS8.ko.from _, hS8.kq, _, _, _, ⟨hP7.low, hP7.lbox, ?_, hP7.abox, hP7.al, ?_, ?_, ?_⟩, hP7.ibox⟩
      · rw [HE.out]
        show World.ownsRow _ _ _ _ _ _ (icells ((lz l.length R).set i ((mxl ⟨X, Y⟩ (R.map (·.2)) (rl (R.map (·.2))) + 1 : Nat) : Int)))
        rw [HN.out, Int.natCast_add, Int.natCast_one]
        exact hP7.lrow
      · rw [HE.out]; exact HD.out.1
      · rw [HE.out]; exact HD.out.2.1
      · rw [HE.out]; exact HD.out.2.2
    · have e1 : ((n : Int) == (vals.length : Int)) = false := by simp; omega
      have hnl2 : n < vals.length := by have := HVL.out; omega
      clear hnl
      gi_wp2_with (refine ⟨trivial, ?_⟩; gi_at_call 60; refine (CallsIn.inRound lp (callsIn_wide.2 hsr)).mono ?_; rintro e W1 ⟨rfl, hL1⟩; obtain ⟨hP1, hS1⟩ := hRp.lo hL1; have c4' := hP1.abox.cell)
      have hx1 := low_blk hL1 hx
      obtain ⟨g1, rfl⟩ : ∃ g1, vo = some ⟨g1, 0, none⟩ := by
        obtain ⟨g1, q, _⟩ := hP1.al.cell (List.getElem?_eq_getElem hnl2)
        exact ⟨g1, q⟩
      obtain ⟨hd, hhd, hst, hno, hdl, hH1, hH2, hH3⟩ := heads_step i HRest.out h3 HH.out (H' := H) (by unfold room; rw [if_neg (by have := HVL.out; omega)])
      have hvn : n < (vals).length := by have := hP1.al.len; have := (List.getElem?_eq_some_iff.1 hhd).1; omega
      obtain ⟨v1, hv1⟩ : ∃ v1, (vals)[n]? = some v1 := ⟨_, List.getElem?_eq_getElem hvn⟩
      have hOw := hP1.al.own n v1 hd hv1 hhd
      have HD : Hid (Hds (((i, ⟨X, Y⟩) :: R).map (·.2)) ((H).set n (ins hd ⟨X, Y⟩)) ∧ ((H).set n (ins hd ⟨X, Y⟩)).length ≤ ((i, (⟨X, Y⟩ : Pr)) :: R).length ∧ ∀ x ∈ (H).set n (ins hd ⟨X, Y⟩), x.length ≤ ((i, (⟨X, Y⟩ : Pr)) :: R).length) := ⟨hH1, hH2, hH3⟩
      clear hH1 hH2 hH3
      refine put_region w l.length (lz l.length R) (.slice ao l.length ca) (vals) (H) _ Bx n g1 vals.length vc X Y _ v1 hd (ins hd ⟨X, Y⟩) rfl hP1 (by first | omega | (simp at hvn; omega)) (by have := HVL.out; have := HRest.out.2.1; omega) hv1 (by rw [Lib.cell_of_heap hx1]; rfl) (by rw [Lib.cell_of_heap hx1]; rfl) hOw hst hno (by omega) rfl ?_
      intro v' u hG
      obtain ⟨hP5, hS5⟩ := hP1.put (m := n) (by rw [hhd]; exact hOw) hv1 hG
      have hS6 := hS1.trans hS5
      generalize u.setCell ⟨g1, n, none⟩ v' = W5 at hP5 hS6 ⊢
      have cl := hP5.lbox.cell
      have cw : W5.cell? ⟨w.heap.size, i, none⟩ = some (.int .i64 ((lz l.length R)[i]'(by rw [lz_length]; exact hi))) ∧ W5.frozen? ⟨w.heap.size, i, none⟩ = false := row_cell hP5.lrow (by simp [icells, lz_length, hi])
      obtain ⟨cw1, cw2⟩ := cw
      have hnb : n ≤ 1048576 := by have := HRest.out.2.1; omega
      obtain ⟨hP7, hS7⟩ := hP5.write i ((n + 1 : Nat) : Int)
      have hS8 := hS6.trans hS7
      rw [Int.natCast_add, Int.natCast_one] at hP7 hS8
      clear hS7 hG hP5 hS5 hS6
      gi_wp2
      refine ⟨hS8.ko.from _, hS8.kq, _, _, _, ⟨hP7.low, hP7.lbox, ?_, hP7.abox, hP7.al, ?_, ?_, ?_⟩, hP7.ibox⟩
      · rw [HE.out]
        show World.ownsRow _ _ _ _ _ _ (icells ((lz l.length R).set i ((mxl ⟨X, Y⟩ (R.map (·.2)) (rl (R.map (·.2))) + 1 : Nat) : Int)))
        rw [HN.out, Int.natCast_add, Int.natCast_one]
        exact hP7.lrow
      · rw [HE.out]; exact HD.out.1
      · rw [HE.out]; exact HD.out.2.1
      · rw [HE.out]; exact HD.out.2.2
  case done =>
    rintro D ys W hD hys ⟨va, vals, H, hR, hb⟩ hK
    have hc := hR.lbox.cell
    gi_wp2
    refine ⟨by simp, .inl ⟨_, _, rfl, run_takeDeferred hK, ?_⟩⟩
    refine ⟨_, results_tmp rfl _ _ _, .slice (some ⟨w.heap.size, 0, none⟩) l.length l.length, rfl, ?_, hR.low.trans (belowK_b (w := w) (Nat.le_refl _) W D _ _ (by omega) hK rfl rfl)⟩
    have := ownsRow_putObj hR.lrow (Obj.deferred none) hK rfl
    rw [hys, List.reverse_reverse, lz_all] at this
    exact this
  case stop =>
    rintro D c pre W _ _ h _
    exact h.elim
end Go.Proofs.Ytppdcjjkkckokaa
