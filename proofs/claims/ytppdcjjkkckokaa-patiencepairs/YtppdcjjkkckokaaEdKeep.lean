/-
  What a script keeps: the code's Keep, walked.
-/
import Derived.Test.YtppdcjjkkckokaaEdOwn
namespace Go.Proofs.Ytppdcjjkkckokaa
open Go.RowKit Go.Shelf
attribute [local go_sem] Oper.semAt_some


theorem Keep_no (l : List Ch) (n m : Int) (v : Value) (w : World) (hl : HCh w v l) (hS : ¬ Script l n m) (hn : n ≤ 9223372036854775807) (hm : m ≤ 9223372036854775807) (hlen : l.length ≤ 1048576) :
    Calls Try.prog 36 #[v, .int .i64 n, .int .i64 m] w fun e w' => e = .returned (.tuple #[.slice none 0 0, .int .i64 50]) ∧ Below w.heap.size w w' := by
  obtain ⟨ao, ca, rfl⟩ := Holds.form hl
  go_enter Try.func36, Try.ntmps36
  go_wp2_with fail
  refine (Check_f l n m 50 _ w hl (by omega) hn hm (chk_no hS)).mono ?_
  rintro e w1 ⟨rfl, hB⟩
  go_wp2
  go_ret2
  exact ⟨rfl, hB⟩

/-- make([]T, 0, n) -/
theorem run_make0 {T E : TypeId} {z : Value} {bytes : Nat} (hT : Try.prog.underlying T = some (.slice E)) (hinfo : (Try.prog.info? E).map (fun i => (i.zero, i.size, i.bytes)) = some (some z, 1, bytes)) (hby : bytes ≤ 16) (N : Nat) (hN : N ≤ 1099511627776) (W : World) :
    (Instr.makeSlice T (.int .i64 0) (.int .i64 (N : Int))).run Try.prog W = .ok (.slice (some ⟨W.heap.size, 0, none⟩) 0 N) (W.alloc (.cells (madeCells z.cells N) E)) := by
  obtain ⟨i0, hi, hz0, hzs, hz2⟩ := info_parts hinfo
  have h1 : i0.bytes * N ≤ 16 * 1099511627776 := by rw [hz2]; exact Nat.mul_le_mul hby hN
  have hr := run_make (P := Try.prog) W T E i0 z hT hi hz0 .i64 .i64 0 (N : Int) (Int.le_refl _) (by omega) (by
    have : ((i0.bytes * N : Nat) : Int) ≤ 281474976710656 := by omega
    rwa [Int.natCast_mul] at this) (by omega)
  simpa [hzs] using hr
theorem row_made {E : TypeId} {z : Value} (N : Nat) (hN : N ≤ 1099511627776) (W : World) {base : Nat} (hb : base ≤ W.heap.size) : (W.alloc (.cells (madeCells z.cells N) E)).ownsRow base E 1 (.slice (some ⟨W.heap.size, 0, none⟩) 0 N) 0 [] := by
  have := World.ownsRow_made (size := 1) (e := E) W (madeCells z.cells N) N hb (by unfold maxLen; omega) (by rw [size_madeCells, Nat.mul_one])
  exact this

theorem pk_length {n m : Int} (hn : n ≤ 65536) (x : Pie n m) : (pk x.1).length ≤ 131072 := by
  obtain ⟨x, h1, h2, h3, h4, h5, h6, h7, h8, h9, h10⟩ := x
  simp [pk]
  omega
theorem pks_length {n m : Int} (hn : n ≤ 65536) (pre : List (Pie n m)) : (pre.flatMap fun x => pk x.1).length ≤ pre.length * 131072 := by
  induction pre with
  | nil => simp
  | cons x t ih => have := pk_length hn x; simp only [List.flatMap_cons, List.length_append, List.length_cons]; omega

/-- the row of numbers that Keep collects -/
def IOwn (n₀ lo B : Nat) (v : Value) (Z : List Int) (W : World) : Prop := OwnR n₀ lo B 29 3 1 v Z.length (icells Z) W

set_option maxRecDepth 100000 in
set_option maxHeartbeats 4000000 in
theorem Keep_ok (l : List Ch) (n m : Int) (v : Value) (w : World) (hl : HCh w v l) (hS : Script l n m) (hn : n ≤ 65536) (hm : m ≤ 9223372036854775807) (hlen : l.length ≤ 1048576) :
    Calls Try.prog 36 #[v, .int .i64 n, .int .i64 m] w fun e w' => ∃ v', e = .returned (.tuple #[v', .int .i64 0]) ∧ HI w' v' (keepL l n m) ∧ Below w.heap.size w w' := by
  obtain ⟨ao, ca, rfl⟩ := Holds.form hl
  have hn0 := hS.1
  have hm0 := hS.2.1
  have HS : Hid (Script l n m) := hS
  clear hS
  obtain ⟨N, rfl⟩ : ∃ N : Nat, n = (N : Int) := ⟨n.toNat, by omega⟩
  have hmk := run_make0 Try.underlying29 infoInt (by decide) N (by omega)
  refine (callsIn_wide (n := 3)).1 ?_
  refine callsIn_of_wp_marks Try.func36 rfl trivial ?_ rfl
  simp only [Try.ntmps36, List.size_toArray, List.length_cons, List.length_nil, Nat.reduceAdd, Nat.reduceSub, Array.replicate_succ, Array.replicate_zero, List.push_toArray, List.append_toArray, List.nil_append, List.cons_append]
  gi_wp2_with (first
    | (refine ⟨trivial, ?_⟩; gi_at_call 30; refine (callsIn_wide.2 (Check_f l N m 0 _ w hl (by omega) (by omega) hm (chk_ok HS.out))).mono ?_; rintro e w1 ⟨rfl, hB1⟩)
    | (refine ⟨trivial, ?_⟩; gi_at_call 54; refine (callsIn_wide.2 (pieces_any _ _ _ _ _ _)).mono ?_; rintro e w' ⟨rfl, rfl⟩))
  obtain ⟨W0, hW0⟩ : ∃ W0, (((((w1.alloc (Obj.cells (madeCells #[Value.int IntKind.i64 0] N) 3)).alloc (Obj.cells #[Value.slice (some { block := w1.heap.size, off := 0 }) 0 N] 29)).alloc (Obj.cells #[Value.slice ao l.length ca] 22)).alloc (Obj.cells #[Value.int IntKind.i64 N] 3)).alloc (Obj.cells #[Value.int IntKind.i64 m] 3)) = W0 := ⟨_, rfl⟩
  obtain ⟨hsz, b0, b1, b2, hB2⟩ := boxes3 _ _ _ _ W0 hW0
  have hsu : ((w1.alloc (Obj.cells (madeCells #[Value.int IntKind.i64 0] N) 3)).alloc (Obj.cells #[Value.slice (some { block := w1.heap.size, off := 0 }) 0 N] 29)).heap.size = w1.heap.size + 1 + 1 := by simp
  have hrow := row_made (E := 3) (z := .int .i64 0) N (by omega) w1 (Nat.le_refl w1.heap.size)
  have bK := Boxed.new (w1.alloc (Obj.cells (madeCells #[Value.int IntKind.i64 0] N) 3)) 29 (Value.slice (some { block := w1.heap.size, off := 0 }) 0 N)
  rw [World.size_alloc] at bK
  rw [hsu] at hsz b0 b1 b2 hB2
  have hBk : ∀ k, k < w1.heap.size + 1 + 1 → W0.heap[k]? = ((w1.alloc (Obj.cells (madeCells #[Value.int IntKind.i64 0] N) 3)).alloc (Obj.cells #[Value.slice (some { block := w1.heap.size, off := 0 }) 0 N] 29)).heap[k]? := hB2.block
  have bK0 : Boxed W0 (w1.heap.size + 1) 29 (Value.slice (some { block := w1.heap.size, off := 0 }) 0 N) := (hBk _ (by omega)).trans bK
  have hrow0 : W0.ownsRow w1.heap.size 3 1 (Value.slice (some { block := w1.heap.size, off := 0 }) 0 N) 0 [] := by
    have hr1 := hrow.alloc (Obj.cells #[Value.slice (some { block := w1.heap.size, off := 0 }) 0 N] 29)
    rw [← hW0]
    exact ((hr1.alloc _).alloc _).alloc _
  have hB0 : Below w1.heap.size w1 W0 := (((Below.refl _ w1).alloc (Nat.le_refl _) _).alloc (by simp) _).trans (hB2.mono (by omega))
  clear hrow bK hBk hB2 hsu
  rw [hW0]
  refine wpIn_rangeFunc_ownH rfl (by omega) (gf := 70) (lb := #[.pointer (some ⟨w1.heap.size + 1 + 1, 0, none⟩), .pointer (some ⟨w1.heap.size + 1 + 1 + 1, 0, none⟩), .pointer (some ⟨w1.heap.size + 1 + 1 + 1 + 1, 0, none⟩)]) rfl trivial (enters_of Try.func70 (by kernel_rfl) rfl)
    (pieces_stops 2 (by omega) (w1.heap.size + 1 + 1) w1.heap.size ao ca l N m HS.out (by omega) hm (by omega) W0 (by omega) (by omega) b0 b1 b2 (HCh.keep (HCh.keep hl hB1 (Nat.le_refl _)) hB0 (Nat.le_refl _)) (fun a ha h0 => HCh.lt (HCh.keep hl hB1 (Nat.le_refl _)) a ha h0)) Kp.trans (Kp.putObj (by omega) (by omega)) (Below.refl _ _) (fun _ => rfl)
    (fun pre W => (∃ v, OwnR w1.heap.size (w1.heap.size + 1 + 1) (w1.heap.size + 1) 29 3 1 v (pre.flatMap fun x => pk x.1).length (icells (pre.flatMap fun x => pk x.1)) W) ∧ Below w1.heap.size W0 W)
    (fun _ _ _ => False)
    (ownR_own (by omega) (by omega) _ _)
    (fun _ _ _ _ _ hs _ _ => hs)
    ⟨⟨_, bK0, hrow0, fun g hg => by simp [Value.ownBlock] at hg; omega⟩, Below.refl _ _⟩
    (fun x a' W => ∃ Bx Bc, W.heap[Bx]? = some (Obj.cells #[.int .i64 x.1.1.a, .int .i64 x.1.1.b, .int .i64 x.1.1.n] 62 (0, 0)) ∧ W.heap[Bc]? = some (Obj.cells #[.int .i64 x.1.2.A, .int .i64 x.1.2.AN, .int .i64 x.1.2.B, .int .i64 x.1.2.BN] 59 (0, 0)) ∧ a' = { tmps := #[.slice ao l.length ca, .int .i64 N, .int .i64 m, undef, undef, undef, .slice none 0 0, .int .i64 0, .int .i64 0, .pointer (some ⟨w1.heap.size + 1, 0, none⟩), .pointer (some ⟨Bx, 0, none⟩), .pointer (some ⟨Bc, 0, none⟩), undef, .slice ao l.length ca, .int .i64 N, .int .i64 m, .int .i64 0, .int .i64 0, .bool false, undef, .int .i64 N, .bool (decide (2147483647 < (N : Int))), .int .i64 N, .slice (some ⟨w1.heap.size, 0, none⟩) 0 N, .slice ao l.length ca, .int .i64 N, .int .i64 m, .func (.func 70) #[] #[.pointer (some ⟨w1.heap.size + 1 + 1, 0, none⟩), .pointer (some ⟨w1.heap.size + 1 + 1 + 1, 0, none⟩), .pointer (some ⟨w1.heap.size + 1 + 1 + 1 + 1, 0, none⟩)], rnV x.1.1, chV x.1.2, undef, undef, undef, undef, undef, undef, undef, undef, undef, undef, undef, undef, undef, undef, undef, undef, undef, undef, undef, undef, undef, undef], defers := [] })
    ?hAx ?assign ?body ?done ?stop
  case hAx =>
    rintro x a' _ A B row ⟨Bx, Bc, hx, hxc, rfl⟩ hg hr
    refine ⟨Bx, Bc, (hg.block Bx (Array.getElem?_eq_some_iff.1 hx).1 (fun e => ?_)).trans hx, (hg.block Bc (Array.getElem?_eq_some_iff.1 hxc).1 (fun e => ?_)).trans hxc, rfl⟩
    · obtain ⟨_, o, ho, hc⟩ := hr Bx e.symm
      rw [hx] at ho
      cases ho
      cases hc
    · obtain ⟨_, o, ho, hc⟩ := hr Bc e.symm
      rw [hxc] at ho
      cases ho
      cases hc
  case assign =>
    rintro lp pre x W K ⟨⟨v, hO⟩, hB⟩ hK
    have hs := hB.size
    simp only [rnV, chV]
    gi_wp2
    refine hK _ _ (((KeepsOthers.alloc _ _).trans (KeepsOthers.alloc _ _)).from _) ((Kp.alloc (by omega) (by omega) _).trans (Kp.alloc (by simp; omega) (by simp; omega) _)) ⟨⟨v, (hO.alloc _).alloc _⟩, (hB.alloc (by omega) _).alloc (by simp; omega) _⟩ ⟨W.heap.size, W.heap.size + 1, (Below.heap_alloc _ _ _ (by simp)).trans (_root_.Go.heap_alloc_new W _), ?_, rfl⟩
    have := _root_.Go.heap_alloc_new (W.alloc (Obj.cells #[.int .i64 x.1.1.a, .int .i64 x.1.1.b, .int .i64 x.1.1.n] 62)) (Obj.cells #[.int .i64 x.1.2.A, .int .i64 x.1.2.AN, .int .i64 x.1.2.B, .int .i64 x.1.2.BN] 59)
    rw [World.size_alloc] at this
    exact this
  case body =>
    rintro lp pre x a' W hlp ⟨r, hr⟩ ⟨⟨v, hO⟩, hB⟩ ⟨Bx, Bc, hx, hxc, rfl⟩ hlt
    have hs := hB.size
    have hbnd := pks_length hn pre
    obtain ⟨q1, q2, q3, q4, q5, q6, q7, q8, q9, q10⟩ := x.2
    have HZ : Hid ((pre ++ [x]).flatMap (fun x => pk x.1) = (pre.flatMap fun x => pk x.1) ++ ((List.range x.1.1.n.toNat).map (fun (i : Nat) => x.1.1.b + (i : Int)) ++ List.replicate x.1.2.AN.toNat (-1))) := (by show _ = _; simp [pk])
    obtain ⟨X, hX⟩ : ∃ X, (pre.flatMap fun x => pk x.1) = X := ⟨_, rfl⟩
    rw [hX] at hO hbnd HZ
    obtain ⟨cnt, hcnt⟩ : ∃ cnt : Nat, x.1.1.n = (cnt : Int) := ⟨x.1.1.n.toNat, by omega⟩
    obtain ⟨can, hcan⟩ : ∃ can : Nat, x.1.2.AN = (can : Int) := ⟨x.1.2.AN.toNat, by omega⟩
    rw [hcnt] at hx
    rw [hcan] at hxc
    have hc := hO.box.cell
    have x2 : W.cell? ⟨Bx, 2, none⟩ = some (.int .i64 cnt) := by rw [Lib.cell_of_heap hx]; rfl
    have hm2 : x.1.1.b + x.1.1.n ≤ 9223372036854775807 := by omega
    gi_wp2
    gi_loopw [32] (fun iv wr => ∃ (j : Nat) (v2 : Value), j ≤ cnt ∧ iv = .int .i64 j ∧ IOwn w1.heap.size (w1.heap.size + 1 + 1) (w1.heap.size + 1) v2 (X ++ (List.range j).map (fun (i : Nat) => x.1.1.b + (i : Int))) wr ∧ Kp w1.heap.size (w1.heap.size + 1 + 1) W wr ∧ KeepsOthers W wr ∧ wr.heap[Bx]? = some (Obj.cells #[.int .i64 x.1.1.a, .int .i64 x.1.1.b, .int .i64 cnt] 62 (0, 0))) (fun iv _ => cnt - (intOf iv).toNat)
    case atStart => exact ⟨0, v, Nat.zero_le _, rfl, by simpa [IOwn] using hO, Kp.refl _, KeepsOthers.refl _, hx⟩
    case round =>
      obtain ⟨j, v2, hj, rfl, hO2, hkp, hko, hx'⟩ := hrel
      have hs2 := hkp.low.size
      unfold IOwn at hO2
      have hc2 := hO2.box.cell
      by_cases hjl : j < cnt
      · have x1 : wr.cell? ⟨Bx, 1, none⟩ = some (.int .i64 x.1.1.b) := by rw [Lib.cell_of_heap hx']; rfl
        have hln : (X ++ (List.range j).map (fun (i : Nat) => x.1.1.b + (i : Int))).length = X.length + j := by simp
        rw [hln] at hO2
        gi_wp2_with (gi_at_builtin; refine wpListIn_append_h _ rfl (.tmp 35) (.tmp 40) 29 3 rfl (.int .i64 0) 1 8 Try.underlying29 infoInt rfl (by decide) (by decide) w1.heap.size v2 _ _ rfl (hO2.row.alloc _) _ 1 (icells [x.1.1.b + (j : Int)]) rfl (new_holds _ _ _ _ _ (by decide)) rfl (icells_one _) (by omega) (by simp; omega) ?_; intro v' u1 hown' hgrow hp; obtain ⟨g', cap', rfl⟩ := ownsRow_succ hown'; obtain ⟨hv1, hO3, hk2, hp2, hal⟩ := (OwnR.alloc hO2 _).appended (by decide) (by decide) (by decide) (by omega) (by omega) (by simp; omega) hown' hgrow hp; have hc1 := hv1.cell; have hf1 := hv1.frozen)
        have hkp2 := hkp.trans ((Kp.alloc (W := wr) (n₀ := w1.heap.size) (lo := w1.heap.size + 1 + 1) (by omega) (by omega) _).trans hp2)
        refine ⟨⟨j + 1, .slice (some ⟨g', 0, none⟩) (X.length + j + 1) cap', by omega, by go_num, ?_, hkp2, hko.trans ((KeepsOthers.alloc wr _).trans hk2), hal _ _ _ ((Below.heap_alloc wr _ _ (Array.getElem?_eq_some_iff.1 hx').1).trans hx') (by decide) (by decide)⟩, by simp [intOf]; omega⟩
        rw [← icells_append] at hO3
        unfold IOwn
        rw [List.range_succ, List.map_append, ← List.append_assoc]
        simpa [Nat.add_assoc] using hO3
      · obtain rfl : j = cnt := by omega
        have hkc : wr.heap[Bc]? = _ := hkp.chg _ _ hxc
        have xc1 : wr.cell? ⟨Bc, 1, none⟩ = some (.int .i64 can) := by rw [Lib.cell_of_heap hkc]; rfl
        obtain ⟨Y, hY⟩ : ∃ Y, X ++ (List.range j).map (fun (i : Nat) => x.1.1.b + (i : Int)) = Y := ⟨_, rfl⟩
        have hYl : Y.length ≤ X.length + j := by rw [← hY]; simp
        rw [hY] at hO2
        have HZ2 : Hid ((pre ++ [x]).flatMap (fun x => pk x.1) = Y ++ List.replicate can (-1)) := (by
          have h := HZ.out
          rw [hcnt, hcan] at h
          simp only [Int.toNat_natCast] at h
          show _ = _
          rw [h, ← hY, List.append_assoc])
        clear HZ hY
        gi_wp2
        gi_loopw [45] (fun iv wr => ∃ (i : Nat) (v2 : Value), i ≤ can ∧ iv = .int .i64 i ∧ IOwn w1.heap.size (w1.heap.size + 1 + 1) (w1.heap.size + 1) v2 (Y ++ List.replicate i (-1)) wr ∧ Kp w1.heap.size (w1.heap.size + 1 + 1) W wr ∧ KeepsOthers W wr) (fun iv _ => can - (intOf iv).toNat)
        case atStart => exact ⟨0, v2, Nat.zero_le _, rfl, by simpa [IOwn] using hO2, hkp, hko⟩
        case round =>
          clear hO2 hc2 hs2 xc1 hkc
          obtain ⟨i, v2, hi, rfl, hO2, hkp, hko⟩ := hrel
          have hs2 := hkp.low.size
          unfold IOwn at hO2
          have hc2 := hO2.box.cell
          by_cases hil : i < can
          · have hln : (Y ++ List.replicate i (-1)).length = Y.length + i := by simp
            rw [hln] at hO2
            gi_wp2_with (gi_at_builtin; refine wpListIn_append_h _ rfl (.tmp 47) (.tmp 48) 29 3 rfl (.int .i64 0) 1 8 Try.underlying29 infoInt rfl (by decide) (by decide) w1.heap.size v2 _ _ rfl (hO2.row.alloc _) _ 1 (icells [-1]) rfl (new_holds _ _ _ _ _ (by decide)) rfl (icells_one _) (by omega) (by simp; omega) ?_; intro v' u1 hown' hgrow hp; obtain ⟨g', cap', rfl⟩ := ownsRow_succ hown'; obtain ⟨hv1, hO3, hk2, hp2, hal⟩ := (OwnR.alloc hO2 _).appended (by decide) (by decide) (by decide) (by omega) (by omega) (by simp; omega) hown' hgrow hp; have hc1 := hv1.cell; have hf1 := hv1.frozen)
            have hkp2 := hkp.trans ((Kp.alloc (W := wr) (n₀ := w1.heap.size) (lo := w1.heap.size + 1 + 1) (by omega) (by omega) _).trans hp2)
            refine ⟨⟨i + 1, .slice (some ⟨g', 0, none⟩) (Y.length + i + 1) cap', by omega, by go_num, ?_, hkp2, hko.trans ((KeepsOthers.alloc wr _).trans hk2)⟩, by simp [intOf]; omega⟩
            rw [← icells_append] at hO3
            unfold IOwn
            rw [List.replicate_succ', ← List.append_assoc]
            simpa [Nat.add_assoc] using hO3
          · obtain rfl : i = can := by omega
            gi_wp2
            exact ⟨hko.from _, hkp, ⟨v2, by rw [HZ2.out]; exact hO2⟩, hB.trans hkp.low⟩
  case done =>
    rintro D ys W hD hys ⟨⟨v, hO⟩, hB⟩ hK
    have hc := hO.box.cell
    gi_wp2
    refine ⟨by simp, .inl ⟨_, _, rfl, run_takeDeferred hK, ?_⟩⟩
    have hfm : (ys.flatMap fun x => pk x.1) = keepL l N m := by
      unfold keepL
      rw [← hys, List.flatMap_map]
    have hrw := ownsRow_putObj hO.row (Obj.deferred none) hK rfl
    rw [hfm] at hrw
    refine ⟨_, results_tmp2 rfl _ _ _, v, rfl, holds_of hrw, hB1.trans (Below.mono ((hB0.trans hB).trans (belowK_b (w := w1) (Nat.le_refl _) W D _ _ (by omega) hK rfl rfl)) hB1.size)⟩
  case stop =>
    rintro D c pre W _ _ h _
    exact h.elim
end Go.Proofs.Ytppdcjjkkckokaa
